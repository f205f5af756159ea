/-
  Small laws for a range over a map of nodes or over a set of texts. No condition.
  Settled, the program's: what a tally covers, whether it covers all that stands behind an id. No condition but that the dag is right and lies.
  Settled, the program's, whole: the rising list of the ids that are settled. No condition but that the slices read and that the tables lie.
  Settled, the specification's. No condition but that the slices read.
  The law of Behind returns true. No condition but that the slices read and that the tables lie.
  The law of Settled returns true. No condition but that the slices read and that the tables lie.
  Numbers that came in read as a list. No condition.
-/
import Derived.Test.YtlibipbpaigmdaaGreatDoorStM1
import Derived.Test.YtlibipbpaigmdaaGreatDoorStM2
import Derived.Test.YtlibipbpaigmdaaGreatDoorSPut
import Derived.Test.YtlibipbpaigmdaaGreatDoorKeys
import Derived.Test.YtlibipbpaigmdaaGreatDoorDagOpen
namespace Go.Proofs.YtlibipbpaigmdaaGreatDoor
open Go.RowKit Go.Maps
set_option linter.unusedVariables false

def unitV : Unit → Value := fun _ => .agg #[]
theorem unitV_inv (v : Value) (y : DataW Value × List MemPlace) (h : unitElem v = some y) : ∃ c : Unit, v = unitV c := ⟨(), (unitElem_inv h).1⟩

theorem ranges_kept' {w w' : World} {R : Value → Option (DataW Value × List MemPlace)} {B r n cnt K : Nat} {E : DataW Value} {left : Lit → Bool} (h : w.ranges Tryz.prog 9 R B r n E left cnt) (hg : w.grownBy w' (some K)) (h1 : B ≠ K) (h2 : r ≠ K) : w'.ranges Tryz.prog 9 R B r n E left cnt :=
  h.kept hg (by simpa using h1) (by simpa using h2)
theorem ranges_below {w w' : World} {R : Value → Option (DataW Value × List MemPlace)} {B r n cnt : Nat} {E : DataW Value} {left : Lit → Bool} (h : w.ranges Tryz.prog 9 R B r n E left cnt) (hB : Below w.heap.size w w') : w'.ranges Tryz.prog 9 R B r n E left cnt :=
  h.kept (row := none) (grown_below hB) (by simp) (by simp)

theorem struck (left : Lit → Bool) (D : Nat → Nd) {len i : Nat} {x : ByteArray} (hr : riseB (ids D) len = true) (hi : i < len) (hix : (ids D i).toList = x.toList) (i' : Nat) (hi' : i' < len) :
    (left (keyL (ids D i')) && !(keyL (ids D i')).sameKey (keyL x)) = false ↔ left (keyL (ids D i')) = false ∨ i' = i := by
  constructor
  · intro h
    by_cases hl : left (keyL (ids D i')) = false
    · exact .inl hl
    · have hl : left (keyL (ids D i')) = true := by simpa using hl
      rw [hl] at h
      have hk := keyL_inj (WideAt.sameKey_eq (show (keyL (ids D i')).sameKey (keyL x) = true by simpa using h))
      exact .inr (rise_inj hr hi' hi (hk.trans hix.symm))
  · rintro (h | rfl)
    · rw [h]; rfl
    · have : (keyL (ids D i')).sameKey (keyL x) = true := by rw [keyL_eq hix]; simp [keyL, Lit.sameKey]
      rw [this]; simp

theorem node_of {D : Nat → Nd} {b off len : Nat} {x : ByteArray} {c : Option Addr} {y : DataW Value} {ps : List MemPlace} (hRv : PR (Value.pointer c) = some (y, ps)) (hat : ∀ zd, (mapD D b off len).atKey (keyL x) zd = y) : ∃ i, i < len ∧ (ids D i).toList = x.toList ∧ c = some ⟨b, off + i * 6, none⟩ := by
  have hy : y = .held (.pointer c) := by
    simp only [PR, Option.some.injEq, Prod.mk.injEq] at hRv
    exact hRv.1.symm
  cases ho : outB (ids D) len x with
  | true =>
    have h1 := hat .nil
    rw [(mapD_at D b off x len).1 ho, hy] at h1
    cases h1
  | false =>
    obtain ⟨i, hi, e, ha⟩ := (mapD_at D b off x len).2 ho
    have h1 := hat .nil
    rw [ha, hy] at h1
    simp only [ptr, DataW.held.injEq, Value.pointer.injEq] at h1
    exact ⟨i, hi, e, h1.symm⟩
end Go.Proofs.YtlibipbpaigmdaaGreatDoor

namespace Go.Proofs.YtlibipbpaigmdaaGreatDoor
open Go.RowKit Go.Maps
set_option linter.unusedVariables false

theorem tlC_at {cs : List Int} {i : Nat} (h : i < cs.length) : (tlC cs)[i]? = some (.int .i64 (cs.getD i 0)) := by
  unfold tlC
  simp [h]

set_option maxRecDepth 10000 in
set_option maxHeartbeats 2000000 in
theorem has_any (cs : List Int) (hcs : cs.length = 9) (b o : Nat) (d : Nd) (w : World) (nd : NdAt w b o d) (ha : 1 ≤ d.a ∧ d.a ≤ 9) :
    Calls Tryz.prog 151 #[.agg (tlC cs), .pointer (some ⟨b, o, none⟩)] w fun e w' => e = .returned (.bool (covB cs d)) ∧ Below w.heap.size w w' := by
  obtain ⟨p, hp⟩ : ∃ p, p = tlC cs := ⟨_, rfl⟩
  have nd2 := nd.below ((Below.refl _ _).alloc (Nat.le_refl _) (.cells p 85))
  obtain ⟨c0, c1, _, _, _, _, _⟩ := nd2
  obtain ⟨i, hi⟩ : ∃ i : Nat, d.a = (i : Int) + 1 := ⟨(d.a - 1).toNat, by omega⟩
  have hi9 : i < 9 := by omega
  have hi9I : (i : Int) < 9 := by omega
  obtain ⟨x, hx⟩ : ∃ x, x = cs.getD i 0 := ⟨_, rfl⟩
  obtain ⟨s, hs⟩ : ∃ s, s = d.s := ⟨_, rfl⟩
  have HR : Hid (covB cs d = decide (s ≤ x)) := by
    show _ = _
    unfold covB numOf
    rw [hs, hx, hi]
    have : ((i : Int) + 1 - 1).toNat = i := by omega
    rw [this]
  have hck : (w.alloc (.cells p 85)).cell? ⟨w.heap.size, i, none⟩ = some (.int .i64 x) := by
    rw [cellN (heap_alloc_new w _), hp, tlC_at (by omega), hx]
  have HB : Hid (Below w.heap.size w (w.alloc (.cells p 85))) := (Below.refl _ _).alloc (Nat.le_refl _) _
  have hg1 : decide ((1 : Int) ≤ (i : Int) + 1) = true := by simp; omega
  have hg2 : decide ((i : Int) + 1 ≤ 9) = true := by simp; omega
  have hsub : ((i : Int) + 1) - 1 = (i : Int) := by omega
  have hwr : IntKind.i64.wrap ((i : Int) + 1 - 1) = (i : Int) := by rw [IntKind.wrap_i64]; omega
  have hwi : IntKind.i64.wrap (i : Int) = (i : Int) := by rw [IntKind.wrap_i64]; omega
  rw [hi] at c0
  rw [← hs] at c1
  rw [← hp]
  clear nd ha hi hx hs hp
  go_enter Tryz.func151, Tryz.ntmps151
  go_wp2
  go_quiet (fail)
  go_wp2
  go_ret
  exact ⟨ret_v (by rw [HR.out]; rfl), HB.out.trans ⟨rfl, rfl, rfl, Nat.le_refl _, fun _ _ => rfl⟩⟩

theorem key_size {z : ByteArray} {kl : Lit} (hkz : keyOf Tryz.prog 9 (.string z) = some kl) : z.size ≤ 9223372036854775807 := by
  have h1 := hkz
  simp [keyOf, Tryz.underlying9, mapKey] at h1
  have := h1.1
  unfold maxLen at this
  omega

set_option maxRecDepth 10000 in
set_option maxHeartbeats 4000000 in
theorem hasBehind_any (cs : List Int) (hcs : cs.length = 9) (D : Nat → Nd) (len b off B : Nat) (x : ByteArray) (w : World) (hq : dagB D len = true) (hfin : Fine D len) (hnd : ∀ i, i < len → NdAt w b (off + i * 6) (D i)) (hmap : w.ownsMap Tryz.prog 9 PR B len (mapD D b off len)) (hx : x.size ≤ 9223372036854775807) :
    Calls Tryz.prog 92 #[.agg (tlC cs), .map (some B), .string x] w fun e w' => ∃ r : Bool, e = .returned (.bool r) ∧ (r = true ↔ CovP D len cs x) ∧ Below w.heap.size w w' := by
  obtain ⟨p, hp⟩ : ∃ p, p = tlC cs := ⟨_, rfl⟩
  obtain ⟨w2, hw2⟩ : ∃ w2, w2 = (w.alloc (.cells p 85)).alloc (.cells #[.string x] 9) := ⟨_, rfl⟩
  have s1 : (w.alloc (.cells p 85)).heap.size = w.heap.size + 1 := by simp
  have hB2 : Below w.heap.size w w2 := by rw [hw2]; exact ((Below.refl _ _).alloc (Nat.le_refl _) _).alloc (by rw [s1]; omega) _
  have g2 : w2.heap[w.heap.size + 1]? = some (.cells #[.string x] 9 (0, 0)) := by rw [hw2, ← s1]; exact heap_alloc_new _ _
  have g1 : w2.heap[w.heap.size]? = some (.cells p 85 (0, 0)) := by
    rw [hw2, Below.heap_alloc _ _ _ (by rw [s1]; omega)]; exact heap_alloc_new _ _
  have hlt2 : w.heap.size + 1 < w2.heap.size := lt_of_block g2
  have hT : IsStrs w2 (some ⟨w.heap.size + 1, 0, none⟩) 1 1 (one x) := by
    refine ⟨Nat.le_refl _, by omega, fun _ => ⟨_, 0, rfl, hlt2, fun i hi => ?_⟩⟩
    obtain rfl : i = 0 := by omega
    exact cellN g2
  have HK : Hid (Calls Tryz.prog 98 #[.map (some B), .slice (some ⟨w.heap.size + 1, 0, none⟩) 1 1] w2 fun e w' => ∃ F E, e = .returned (.map (some F)) ∧ w2.heap.size ≤ F ∧ SetOf w' F len E ∧ (∀ y, has E (.string y) = true ↔ Reach D len (one x) 1 y) ∧ Below w2.heap.size w2 w') :=
    idsBehind_any D len b off B _ 1 1 (one x) w2 hq hfin (fun i hi => (hnd i hi).below hB2) (ownsMap_below hmap hB2) hT (fun j _ => hx)
  have HG1 : Hid (w2.heap[w.heap.size]? = some (.cells p 85 (0, 0)) ∧ w.heap.size < w2.heap.size) := ⟨g1, by omega⟩
  have HB2 : Hid (Below w.heap.size w w2) := hB2
  have HW2 : Hid (w2 = (w.alloc (.cells p 85)).alloc (.cells #[.string x] 9)) := hw2
  have HQ : Hid (dagB D len = true) := hq
  have HND : Hid (∀ v, Below w2.heap.size w2 v → (∀ i, i < len → NdAt v b (off + i * 6) (D i)) ∧ v.ownsMap Tryz.prog 9 PR B len (mapD D b off len)) := fun v hv => by
    have hb := hB2.trans (hv.mono hB2.size)
    exact ⟨fun i hi => (hnd i hi).below hb, ownsMap_below hmap hb⟩
  have HPC : Hid (p = tlC cs) := hp
  have hpi : (Tryz.prog.info? 85).map (·.size) = some p.size := by rw [hp, tlC_size, hcs]; exact infoT
  rw [← hp]
  clear hq hfin hnd hmap hT g1 g2 hB2 hw2 s1 hlt2 hp
  go_enter Tryz.func92, Tryz.ntmps92
  go_wp2_with fail
  rw [← HW2.out]
  refine HK.out.mono ?_
  rintro e w3 ⟨F, E, rfl, hF, hS, hR, hB3⟩
  have HFS : Hid (w2.heap.size ≤ F) := hF
  have HS : Hid (w3.ownsMap Tryz.prog 9 unitElem F len E) := hS
  have HR : Hid (∀ y, has E (.string y) = true ↔ Reach D len (one x) 1 y) := hR
  have HB3 : Hid (Below w2.heap.size w2 w3) := hB3
  clear hF hS hR hB3 HK
  go_wp2_with (first
    | (at_range
       refine wpList_range_own _ rfl _ 97 rfl 9 117 lawS Tryz.underlying97 unitElem F len E rfl HS.out ?_
       intro w4 hrg4 hg4 hs4))
  go_frame
  have HR4 : Hid (w4.ranges Tryz.prog 9 unitElem F w3.heap.size len E (has E) (Maps.size E)) := hrg4
  have HB4 : Hid (Below w2.heap.size w2 w4) := HB3.out.grown hg4 HB3.out.size (fun j hj => by cases hj)
  clear hrg4 hg4 hs4
  go_loopw [7] (fun _ wr => ∃ (left : Lit → Bool) (cnt : Nat), wr.ranges Tryz.prog 9 unitElem F w3.heap.size len E left cnt ∧ Hid (∀ i, i < len → has E (.string (ids D i).toList) = true → left (.string (ids D i).toList) = false → covB cs (D i) = true) ∧ Below w2.heap.size w2 wr) (fun _ wr => wr.rangeLeft F w3.heap.size)
  case atStart => exact ⟨_, _, HR4.out, (fun i hi h1 h2 => by rw [h1] at h2; cases h2), HB4.out⟩
  case round =>
    obtain ⟨left, cnt, hrg, HC, hB⟩ := hrel
    have HG : Hid (wr.ranges Tryz.prog 9 unitElem F w3.heap.size len E left cnt) := hrg
    have HB : Hid (Below w2.heap.size w2 wr) := hB
    clear hB
    go_wp2_with (first
      | (at_next; refine wpList_next_ranges _ rfl _ rfl 9 lawS unitElem Value.string unitV keyS_inv unitV_inv F w3.heap.size len _ _ _ rfl hrg ?_ ?_))
    · intro _ hl0
      have HF : Hid (CovP D len cs x) := fun i hi hr => HC.out i hi ((HR.out _).2 hr) (hl0 _)
      clear hrg hl0
      go_wp2
      go_ret
      exact ⟨true, rfl, ⟨fun _ => HF.out, fun _ => rfl⟩, HB2.out.trans (HB.out.mono HB2.out.size)⟩
    · intro z c kl y ps w6 cnt6 hkz hlk hRv hat hrg6 hlt6 hg6 hs6 hen
      have hkl := keyS_lit hkz
      subst hkl
      have hzr : Reach D len (one x) 1 z.toList := by
        rw [← HR.out, ← keyL_list]
        exact has_true_of_atKey hat
      obtain ⟨i, hi, hiz⟩ := hzr.isId HQ.out
      have hB6 : Below w2.heap.size w2 w6 := HB.out.grown hg6 HB.out.size (fun j hj => by cases hj; exact HB3.out.size)
      obtain ⟨q, hrun, ho1, ho2⟩ := look_node (HND.out w6 hB6).2 z (key_size hkz)
      obtain ⟨i2, hi2, hi2z, hq2⟩ := ho2 ((outB_iff (ids D) z len).2 ⟨i, hi, hiz⟩)
      subst hq2
      have HI : Hid (i2 < len ∧ (ids D i2).toList = z.toList ∧ Reach D len (one x) 1 z.toList) := ⟨hi2, hi2z, hzr⟩
      have HG6 : Hid (w6.ranges Tryz.prog 9 unitElem F w3.heap.size len E (fun s => left s && !s.sameKey (keyL z)) cnt6) := hrg6
      have HB6 : Hid (Below w2.heap.size w2 w6) := hB6
      have HLT : Hid (cnt6 < cnt) := hlt6
      have hgb : w6.heap[w.heap.size]? = some (.cells p 85 (0, 0)) := (hB6.block _ HG1.out.2).trans HG1.out.1
      have HGB : Hid (w6.heap[w.heap.size]? = some (.cells p 85 (0, 0))) := hgb
      have HH : Hid (Calls Tryz.prog 151 #[.agg p, .pointer (some ⟨b, off + i2 * 6, none⟩)] w6 fun e w' => e = .returned (.bool (covB cs (D i2))) ∧ Below w6.heap.size w6 w') := by
        have := has_any cs hcs b (off + i2 * 6) (D i2) w6 ((HND.out w6 hB6).1 i2 hi2) (node_right (ok_at HQ.out hi2)).1
        rw [← HPC.out] at this
        exact this
      clear hrg hrg6 hRv hat hkz hlk hg6 hs6 hB6 hlt6 ho1 ho2 hiz hi2z hzr hgb hi hi2
      cases hcv : covB cs (D i2) with
      | true =>
        rw [hcv] at HH
        have HC' : Hid (∀ j, j < len → has E (.string (ids D j).toList) = true → (left (.string (ids D j).toList) && !(Lit.string (ids D j).toList).sameKey (keyL z)) = false → covB cs (D j) = true) := fun j hj h1 h2 => by
          by_cases hl : left (.string (ids D j).toList) = false
          · exact HC.out j hj h1 hl
          · have hl : left (.string (ids D j).toList) = true := by simpa using hl
            rw [hl, keyL_list] at h2
            have e : (ids D j).toList = z.toList := by simpa [Lit.sameKey] using h2
            rw [rise_inj (dagB_parts HQ.out).2.2.1 hj HI.out.1 (e.trans HI.out.2.1.symm)]
            exact hcv
        clear hcv
        go_wp2_with (first
          | (refine wpList_load_row rfl 85 _ rfl w.heap.size rfl 85 p _ _ HGB.out Tryz.underlying85 rfl hpi ?_)
          | (go_at_call 151; refine HH.out.mono ?_; rintro e w7 ⟨rfl, hB7⟩))
        have HB7 : Hid (Below w6.heap.size w6 w7) := hB7
        clear hB7
        go_roundw
        case rel => exact ⟨_, cnt6, ranges_below HG6.out HB7.out, HC'.out, HB6.out.trans (HB7.out.mono HB6.out.size)⟩
        case measure => rw [(ranges_below HG6.out HB7.out).left_eq, HG.out.left_eq]; exact HLT.out
      | false =>
        rw [hcv] at HH
        have HN : Hid (¬ CovP D len cs x) := fun hc => by
          have h1 := hc i2 HI.out.1 (by rw [HI.out.2.1]; exact HI.out.2.2)
          rw [hcv] at h1
          cases h1
        clear hcv
        go_wp2_with (first
          | (refine wpList_load_row rfl 85 _ rfl w.heap.size rfl 85 p _ _ HGB.out Tryz.underlying85 rfl hpi ?_)
          | (go_at_call 151; refine HH.out.mono ?_; rintro e w7 ⟨rfl, hB7⟩))
        go_ret
        exact ⟨false, rfl, ⟨fun h => (by cases h), fun h => absurd h HN.out⟩, HB2.out.trans ((HB6.out.trans (hB7.mono HB6.out.size)).mono HB2.out.size)⟩
end Go.Proofs.YtlibipbpaigmdaaGreatDoor

namespace Go.Proofs.YtlibipbpaigmdaaGreatDoor
open Go.RowKit Go.Maps
set_option linter.unusedVariables false

theorem csB_len {cs : List Int} (h : csB cs = true) : cs.length = 9 := by
  unfold csB at h
  simp only [Bool.and_eq_true, decide_eq_true_eq] at h
  exact h.1
theorem Up.snoc {L : List (List UInt8)} {x : List UInt8} (h : Up L) (hx : ∀ y ∈ L, Op.bytesLess y x = true) : Up (L ++ [x]) := by
  unfold Up
  rw [List.pairwise_append]
  exact ⟨h, by simp, fun y hy z hz => by simp at hz; subst hz; exact hx y hy⟩
theorem Up.at {L : List (List UInt8)} (h : Up L) {i j : Nat} (hij : i < j) (hj : j < L.length) : Op.bytesLess (L.getD i []) (L.getD j []) = true := by
  have := List.pairwise_iff_getElem.1 h i j (by omega) hj hij
  simpa [List.getD_eq_getElem?_getD, List.getElem?_eq_getElem hj, List.getElem?_eq_getElem (show i < L.length by omega)] using this
theorem mem_getD {L : List (List UInt8)} {x : List UInt8} : x ∈ L ↔ ∃ i, i < L.length ∧ L.getD i [] = x := by
  rw [List.mem_iff_getElem]
  constructor
  · rintro ⟨i, hi, e⟩
    exact ⟨i, hi, by rw [List.getD_eq_getElem?_getD, List.getElem?_eq_getElem hi]; exact e⟩
  · rintro ⟨i, hi, e⟩
    exact ⟨i, hi, by rw [List.getD_eq_getElem?_getD, List.getElem?_eq_getElem hi] at e; exact e⟩

/-- those of the first k of S that P holds for: kept in a list that rises -/
structure Sel (S : List (List UInt8)) (P : List UInt8 → Prop) (k : Nat) (L : List (List UInt8)) : Prop where
  up : Up L
  mem : ∀ x, x ∈ L ↔ ∃ i, i < k ∧ S.getD i [] = x ∧ P x
  len : L.length ≤ k
theorem Sel.nil (S : List (List UInt8)) (P : List UInt8 → Prop) : Sel S P 0 [] := ⟨by simp [Up], fun x => by simp, Nat.le_refl _⟩
theorem Sel.skip {S : List (List UInt8)} {P : List UInt8 → Prop} {k : Nat} {L : List (List UInt8)} (h : Sel S P k L) (hp : ¬ P (S.getD k [])) : Sel S P (k + 1) L :=
  ⟨h.up, fun x => by
    rw [h.mem x]
    constructor
    · rintro ⟨i, hi, e⟩; exact ⟨i, by omega, e⟩
    · rintro ⟨i, hi, e, hx⟩
      rcases Nat.lt_succ_iff_lt_or_eq.1 hi with h1 | rfl
      · exact ⟨i, h1, e, hx⟩
      · exact absurd (by rw [e]; exact hx) hp, by have := h.len; omega⟩
theorem Sel.add {S : List (List UInt8)} {P : List UInt8 → Prop} {k : Nat} {L : List (List UInt8)} (h : Sel S P k L) (hS : Up S) (hk : k < S.length) (hp : P (S.getD k [])) : Sel S P (k + 1) (L ++ [S.getD k []]) :=
  ⟨h.up.snoc (fun y hy => by
    obtain ⟨i, hi, e, _⟩ := (h.mem y).1 hy
    rw [← e]
    exact hS.at hi hk), fun x => by
    rw [List.mem_append, h.mem x, List.mem_singleton]
    constructor
    · rintro (⟨i, hi, e⟩ | rfl)
      · exact ⟨i, by omega, e⟩
      · exact ⟨k, by omega, rfl, hp⟩
    · rintro ⟨i, hi, e, hx⟩
      rcases Nat.lt_succ_iff_lt_or_eq.1 hi with h1 | rfl
      · exact .inl ⟨i, h1, e, hx⟩
      · exact .inr e.symm, by have := h.len; simp; omega⟩

set_option maxRecDepth 10000 in
set_option maxHeartbeats 8000000 in
theorem implSettled_any (a : Option Addr) (len cap : Nat) (D : Nat → Nd) (u : Value) (cs : List Int) (w : World) (h : IsNds w a len cap D) (hf : Fine D len) (hU : RdI w u cs) (hP : AllT w) :
    Calls Tryz.prog 19 #[.slice a len cap, u] w fun e w' => ∃ v L, e = .returned (.tuple #[v, .bool (dagB D len && csB cs)]) ∧ OwnL w' w.heap.size v L ∧ Up L ∧ (∀ x, x ∈ L ↔ (dagB D len && csB cs) = true ∧ SetP D len cs x) ∧ Below w.heap.size w w' := by
  obtain ⟨i0, hi, hz0, hz1, hz2⟩ := info_parts info9
  have HN : Hid (IsNds w a len cap D) := h
  have HF : Hid (Fine D len) := hf
  have HD : Hid (Calls Tryz.prog 88 #[.slice a len cap] w fun e w' => ∃ v, e = .returned (.tuple #[v, .bool (dagB D len)]) ∧ (dagB D len = true → ∃ B b off, v = .map (some B) ∧ w.heap.size ≤ B ∧ (0 < len → a = some ⟨b, off, none⟩) ∧ w'.ownsMap Tryz.prog 9 PR B len (mapD D b off len)) ∧ Below w.heap.size w w') := dagOf_any a len cap D w h hf hP
  have HT : Hid (∀ w', Below w.heap.size w w' → Calls Tryz.prog 89 #[u] w' fun e w'' => e = .returned (.tuple #[.agg (tlC (if csB cs = true then cs else z9)), .bool (csB cs)]) ∧ Below w'.heap.size w' w'') := fun w' hB => tallyOf_any u cs w' (hU.below hB)
  obtain ⟨R, hR⟩ : ∃ R, R = if csB cs = true then cs else z9 := ⟨_, rfl⟩
  have hR9 : R.length = 9 := by
    rw [hR]
    split
    · exact csB_len (by assumption)
    · rfl
  obtain ⟨q, hq⟩ : ∃ q, q = tlC R := ⟨_, rfl⟩
  have hqs : q.size = 9 := by rw [hq, tlC_size, hR9]
  have hqi : (Tryz.prog.info? 85).map (·.size) = some q.size := by rw [hqs]; exact infoT
  have hqo : (#[.int .i64 0, .int .i64 0, .int .i64 0, .int .i64 0, .int .i64 0, .int .i64 0, .int .i64 0, .int .i64 0, .int .i64 0] : Array Value).size = q.size := by rw [hqs]; rfl
  have hq1 : q.all (·.oneCell') = true := by rw [hq]; exact tlC_one _
  have HQ : Hid (q = tlC R ∧ R.length = 9 ∧ (csB cs = true → R = cs)) := ⟨hq, hR9, fun h => by rw [hR, if_pos h]⟩
  rw [← hR, ← hq] at HT
  clear hq hqs hR hR9 h hf hU
  obtain ⟨ok, hok⟩ : ∃ ok, ok = dagB D len := ⟨_, rfl⟩
  obtain ⟨ck, hck⟩ : ∃ ck, ck = csB cs := ⟨_, rfl⟩
  have HOK : Hid (ok = dagB D len ∧ ck = csB cs) := ⟨hok, hck⟩
  rw [← hok] at HD ⊢
  rw [← hck] at HT ⊢
  clear hok hck
  go_enter Tryz.func19, Tryz.ntmps19
  go_wp2_with fail
  refine HD.out.mono ?_
  rintro e w1 ⟨v, rfl, hv, hB1⟩
  have HB1 : Hid (Below w.heap.size w w1) := hB1
  have HV : Hid (ok = true → ∃ B b off, v = .map (some B) ∧ w.heap.size ≤ B ∧ (0 < len → a = some ⟨b, off, none⟩) ∧ w1.ownsMap Tryz.prog 9 PR B len (mapD D b off len)) := hv
  clear hB1 hv
  go_wp2_with fail
  refine (HT.out w1 HB1.out).mono ?_
  rintro e w2 ⟨rfl, hB2⟩
  have HB2 : Hid (Below w1.heap.size w1 w2) := hB2
  obtain ⟨w3, hw3⟩ : ∃ w3, w3 = (w2.alloc (.cells #[.int .i64 0, .int .i64 0, .int .i64 0, .int .i64 0, .int .i64 0, .int .i64 0, .int .i64 0, .int .i64 0, .int .i64 0] 85)).setRow w2.heap.size q := ⟨_, rfl⟩
  have hb3 : Below w2.heap.size w2 w3 := by rw [hw3]; exact below_setRow ((Below.refl _ _).alloc (Nat.le_refl _) _) (Nat.le_refl _) _
  have HG3 : Hid (w3.heap[w2.heap.size]? = some (.cells q 85 (0, 0))) := by rw [hw3]; exact setRow_heap _ _ _ _ _ _ (heap_alloc_new _ _)
  have HB3 : Hid (Below w1.heap.size w1 w3) := hB2.trans (hb3.mono hB2.size)
  have HW3 : Hid (w3 = (w2.alloc (.cells #[.int .i64 0, .int .i64 0, .int .i64 0, .int .i64 0, .int .i64 0, .int .i64 0, .int .i64 0, .int .i64 0, .int .i64 0] 85)).setRow w2.heap.size q) := hw3
  clear hB2 hb3 hw3
  cases ok with
  | false =>
    go_wp2_with (first
      | (refine wpList_store_row rfl 85 _ _ rfl w2.heap.size q rfl rfl 85 _ (heap_alloc_new _ _) hqi hqo hq1 ?_
         rw [← HW3.out]))
    go_ret2
    exact ⟨_, [], rfl, World.ownsRow_nil _ _ _ _, by simp [Up], fun x => by simp, HB1.out.trans (HB3.out.mono HB1.out.size)⟩
  | true =>
    cases ck with
    | false =>
      go_wp2_with (first
        | (refine wpList_store_row rfl 85 _ _ rfl w2.heap.size q rfl rfl 85 _ (heap_alloc_new _ _) hqi hqo hq1 ?_
           rw [← HW3.out]))
      go_ret2
      exact ⟨_, [], rfl, World.ownsRow_nil _ _ _ _, by simp [Up], fun x => by simp, HB1.out.trans (HB3.out.mono HB1.out.size)⟩
    | true =>
      obtain ⟨B, b, off, rfl, hBB, hab, hown⟩ := HV.out rfl
      have HDQ : Hid (dagB D len = true) := HOK.out.1.symm
      have HRC : Hid (q = tlC cs ∧ cs.length = 9) := by
        have h1 := HQ.out.2.2 HOK.out.2.symm
        exact ⟨by rw [HQ.out.1, h1], by rw [← h1]; exact HQ.out.2.1⟩
      have HM : Hid (∀ w', Below w1.heap.size w1 w' → (∀ i, i < len → NdAt w' b (off + i * 6) (D i)) ∧ w'.ownsMap Tryz.prog 9 PR B len (mapD D b off len)) := fun w' hB => ⟨fun i hi => dag_at (HN.out.below (HB1.out.trans (hB.mono HB1.out.size))) (hab (by omega)) i hi, ownsMap_below hown hB⟩
      have HLE : Hid (len ≤ 30) := (dagB_parts HDQ.out).1
      have HLN : Hid (len ≤ 1000000) := by show _ ≤ _; have := HLE.out; omega
      clear hown hab hBB HV
      go_wp2_with (first
        | (refine wpList_store_row rfl 85 _ _ rfl w2.heap.size q rfl rfl 85 _ (heap_alloc_new _ _) hqi hqo hq1 ?_
           rw [← HW3.out])
        | (go_at_call 91; refine (Tryz.maps_Keys_40 _ _).mono ?_; rintro e w4 ⟨rfl, hw4⟩; rw [hw4]; clear hw4 w4)
        | (go_at_call 90; refine (sorted40 B len _ PR w3 (HM.out w3 HB3.out).2 HLN.out).mono ?_; rintro e w5 ⟨v5, S, rfl, hU, hMS, hO5, hB5⟩; obtain ⟨sa, sc, rfl, hIS, _⟩ := hO5.strs2; have hn1 := hIS.1; have hn2 := hIS.2.1))
      have HB5 : Hid (Below w1.heap.size w1 w5) := HB3.out.trans (hB5.mono HB3.out.size)
      have HG5 : Hid (w5.heap[w2.heap.size]? = some (.cells q 85 (0, 0)) ∧ w2.heap.size < w5.heap.size) := by
        have := (hB5.block _ (lt_of_block HG3.out)).trans HG3.out
        exact ⟨this, lt_of_block this⟩
      have HS : Hid (Up S ∧ (∀ x, x ∈ S ↔ IsId D len x) ∧ S.length ≤ len) := by
        have hm : ∀ x, x ∈ S ↔ IsId D len x := fun x => by
          rw [hMS x]
          constructor
          · intro hx
            cases ho : outB (ids D) len (tx x) with
            | true =>
              have h1 := (mapD_at D b off (tx x) len).1 ho
              have h2 : has (mapD D b off len) (keyL (tx x)) = false := has_false_of_atKey h1
              rw [keyL_list, tx_list] at h2
              rw [h2] at hx
              cases hx
            | false =>
              obtain ⟨i, hi, e⟩ := (outB_iff (ids D) (tx x) len).1 ho
              exact ⟨i, hi, by rw [e, tx_list]⟩
          · rintro ⟨i, hi, e⟩
            have := mapD_has D b off len i hi
            rw [keyL_list, e] at this
            exact this
        exact ⟨hU, hm, up_len hU (fun x hx => (hm x).1 hx)⟩
      obtain ⟨n, hn⟩ : ∃ n, n = S.length := ⟨_, rfl⟩
      have HIS : Hid (∀ w', Below w5.heap.size w5 w' → IsStrs w' sa n sc (atL S)) := fun w' hB => by rw [hn]; exact hIS.below hB
      have HNS : Hid (n = S.length ∧ n ≤ 30) := ⟨hn, by rw [hn]; have := HS.out.2.2; have := HLE.out; omega⟩
      rw [← hn]
      clear hIS hO5 hB5 hU hMS hn hn1 hn2
      go_loopw [33, 10] (fun i u wr => ∃ (k : Nat) (L : List (List UInt8)) (v : Value), k ≤ n ∧ i = .int .i64 k ∧ v = u ∧ OwnL wr w5.heap.size v L ∧ Hid (Sel S (fun x => CovP D len cs (tx x)) k L) ∧ Below w5.heap.size w5 wr) (fun i _ _ => n - (Go.RowKit.intOf i).toNat)
      case atStart => exact ⟨0, [], _, Nat.zero_le _, rfl, rfl, World.ownsRow_nil _ _ _ _, Sel.nil _ _, Below.refl _ _⟩
      case round =>
        obtain ⟨k, L, v, hk, rfl, rfl, hO, HL, hB⟩ := hrel
        have HO : Hid (OwnL wr w5.heap.size v L) := hO
        have HB : Hid (Below w5.heap.size w5 wr) := hB
        have HIr := HIS.out wr hB
        obtain ⟨hlc, hcm, hc⟩ := HIr
        clear hO hB
        by_cases hlt : k < n
        · have hltI : (k : Int) < (n : Int) := by omega
          obtain ⟨sb, so, rfl, _, hcell⟩ := hc (by omega)
          have ck := hcell k hlt
          obtain ⟨z, hz⟩ : ∃ z, z = atL S k := ⟨_, rfl⟩
          rw [← hz] at ck
          have hzl : z.toList = S.getD k [] := by rw [hz, atL_list]
          have HB1r : Hid (Below w1.heap.size w1 wr) := HB5.out.trans (HB.out.mono HB5.out.size)
          have HGr : Hid (wr.heap[w2.heap.size]? = some (.cells q 85 (0, 0))) := (HB.out.block _ HG5.out.2).trans HG5.out.1
          have hid : IsId D len z.toList := by
            rw [hzl]
            exact (HS.out.2.1 _).1 (mem_getD.2 ⟨k, by rw [← HNS.out.1]; exact hlt, rfl⟩)
          have hzs : z.size ≤ 9223372036854775807 := by
            obtain ⟨i, hi, e⟩ := hid
            have h64 : (ids D i).size = 64 := id_size (ok_at HDQ.out hi)
            have : z = ids D i := by rw [← tx_toList z, ← tx_toList (ids D i), e]
            rw [this, h64]
            omega
          have HC : Hid (Calls Tryz.prog 92 #[.agg q, .map (some B), .string z] wr fun e w' => ∃ r : Bool, e = .returned (.bool r) ∧ (r = true ↔ CovP D len cs z) ∧ Below wr.heap.size wr w') := by
            rw [HRC.out.1]
            exact hasBehind_any cs HRC.out.2 D len b off B z wr HDQ.out HF.out (HM.out wr HB1r.out).1 (HM.out wr HB1r.out).2 hzs
          have HZ : Hid (z.toList = S.getD k [] ∧ k < S.length) := ⟨hzl, by rw [← HNS.out.1]; exact hlt⟩
          clear hcell hc hid hzs hz hzl
          go_wp2_with (first
            | (refine wpList_load_row rfl 85 _ rfl w2.heap.size rfl 85 q _ _ HGr.out Tryz.underlying85 rfl hqi ?_))
          refine HC.out.mono ?_
          rintro e w6 ⟨r, rfl, hr, hB6⟩
          have HB6 : Hid (Below w5.heap.size w5 w6) := HB.out.trans (hB6.mono HB.out.size)
          have HO6 : Hid (OwnL w6 w5.heap.size v L) := HO.out.below hB6
          have HR6 : Hid (r = true ↔ CovP D len cs z) := hr
          clear hB6 hr HC
          cases r with
          | false =>
            have HL' : Hid (Sel S (fun x => CovP D len cs (tx x)) (k + 1) L) := HL.out.skip (fun hp => by
              rw [← HZ.out.1, tx_toList] at hp
              have := HR6.out.2 hp
              cases this)
            go_wp2
            go_roundw
            case rel => exact ⟨k + 1, L, _, by omega, by go_num, rfl, HO6.out, HL'.out, HB6.out⟩
            case measure => simp [Go.RowKit.intOf]; omega
          | true =>
            have HL' : Hid (Sel S (fun x => CovP D len cs (tx x)) (k + 1) (L ++ [S.getD k []])) := HL.out.add HS.out.1 HZ.out.2 (by
              show CovP _ _ _ _
              rw [← HZ.out.1, tx_toList]
              exact HR6.out.1 rfl)
            have HLk : Hid (L.length ≤ 30) := by show _ ≤ _; have := HL.out.len; have := HNS.out.2; omega
            have HC1 : Hid (L.length + 1 ≤ maxLen ∧ (L.length + 1) * 16 ≤ 140737488355328) := ⟨by unfold maxLen; have := HLk.out; omega, by have := HLk.out; omega⟩
            have HO6x : Hid (w6.ownsRow w5.heap.size 9 1 v L.length (L.map encStr)) := HO6.out
            go_wp2_with (at_builtin; refine wpList_append_own _ rfl _ _ 25 rfl w5.heap.size 9 i0 (.string ⟨#[]⟩) 1 16 Tryz.underlying25 hi hz0 hz1 hz2 rfl (by decide) _ L.length _ rfl (HO6x.out.alloc _) ⟨w6.heap.size, 0, none⟩ 1 1 [.string z] rfl rfl (World.news_of_block (heap_alloc_new _ _)) (fun u hu => by simp at hu; subst hu; rfl) HC1.out.1 HC1.out.2 (by have := HB6.out.size; simp; omega) ?_; intro v7 w7 hown7 hgrow7 hnil7)
            have HF7 : Hid (OwnL w7 w5.heap.size v7 (L ++ [S.getD k []]) ∧ Below w5.heap.size w5 w7) := by
              refine ⟨?_, (HB6.out.alloc HB6.out.size _).grown hgrow7 (by have := HB6.out.size; simp; omega) (fun x hx => (World.ownsRow.lt HO6x.out x hx).1)⟩
              unfold OwnL
              rw [List.map_append, List.map_cons, List.map_nil, ← HZ.out.1, enc_str, List.length_append]
              exact hown7
            clear hown7 hgrow7 hnil7
            go_wp2
            go_roundw
            case rel => exact ⟨k + 1, _, _, by omega, by go_num, rfl, HF7.out.1, HL'.out, HF7.out.2⟩
            case measure => simp [Go.RowKit.intOf]; omega
        · have hke : k = n := by omega
          subst hke
          have HX : Hid (∀ x, x ∈ L ↔ SetP D len cs x) := fun x => by
            rw [HL.out.mem x]
            constructor
            · rintro ⟨i, hi, e, hp⟩
              exact ⟨(HS.out.2.1 x).1 (mem_getD.2 ⟨i, by rw [← HNS.out.1]; exact hi, e⟩), hp⟩
            · rintro ⟨h1, h2⟩
              obtain ⟨i, hi, e⟩ := mem_getD.1 ((HS.out.2.1 x).2 h1)
              exact ⟨i, by rw [HNS.out.1]; exact hi, e, h2⟩
          clear hc
          go_wp2
          go_ret2
          exact ⟨v, L, rfl, mono_base HO.out (Nat.le_trans HB1.out.size HB5.out.size), HL.out.up, fun x => by rw [HX.out x]; simp, HB1.out.trans ((HB5.out.trans (HB.out.mono HB5.out.size)).mono HB1.out.size)⟩
end Go.Proofs.YtlibipbpaigmdaaGreatDoor

namespace Go.Proofs.YtlibipbpaigmdaaGreatDoor
open Go.RowKit Go.Maps
set_option linter.unusedVariables false

theorem rows_one (cs : List Int) : rowsB [⟨1, cs⟩] = csB cs := by
  unfold rowsB
  show allB (okR [⟨1, cs⟩]) 1 = _
  rw [allB_succ]
  show (allB _ 0 && okR [⟨1, cs⟩] 0) = _
  unfold okR
  simp [allB, rwZ, inB]

theorem idsR_up {D : Nat → Nd} {len : Nat} (hq : dagB D len = true) : Up (idsL D len) := by
  unfold Up idsL
  rw [List.pairwise_map, List.pairwise_iff_getElem]
  intro i j hi hj hij
  simp only [List.length_range] at hi hj
  rw [List.getElem_range, List.getElem_range]
  have := rise_less (dagB_parts hq).2.2.1 i (j - i - 1) (by omega)
  rw [show i + (j - i - 1) + 1 = j by omega] at this
  exact this
theorem idsL_at {D : Nat → Nd} {len k : Nat} (hk : k < len) : (idsL D len).getD k [] = (ids D k).toList := by
  unfold idsL
  simp [hk]
theorem cov_iff {cs : List Int} {d : Nd} {x : Int} (hx : x = numOf cs d) : covB cs d = !(decide (x < d.s)) := by
  unfold covB
  rw [← hx]
  by_cases h : d.s ≤ x
  · rw [decide_eq_true h, decide_eq_false (by omega)]; rfl
  · rw [decide_eq_false h, decide_eq_true (by omega)]; rfl

set_option maxRecDepth 10000 in
set_option maxHeartbeats 8000000 in
theorem specSettled_any (a : Option Addr) (len cap : Nat) (D : Nat → Nd) (u : Value) (cs : List Int) (w : World) (h : IsNds w a len cap D) (hf : Fine D len) (hU : RdI w u cs) :
    Calls Tryz.prog 16 #[.slice a len cap, u] w fun e w' => ∃ v L, e = .returned (.tuple #[v, .bool (dagB D len && csB cs)]) ∧ OwnL w' w.heap.size v L ∧ Up L ∧ (∀ x, x ∈ L ↔ (dagB D len && csB cs) = true ∧ SetP D len cs x) ∧ Below w.heap.size w w' := by
  obtain ⟨i0, hi, hz0, hz1, hz2⟩ := info_parts info9
  obtain ⟨ua, uc, hue, _⟩ : ∃ ua uc, u = .slice ua cs.length uc ∧ True := hU.shape
  subst hue
  obtain ⟨m, hm⟩ : ∃ m, m = cs.length := ⟨_, rfl⟩
  have HN : Hid (∀ w', Below w.heap.size w w' → IsNds w' a len cap D) := fun w' hB => h.below hB
  have HF : Hid (Fine D len) := hf
  have HU : Hid (∀ w', Below w.heap.size w w' → RdI w' (.slice ua m uc) cs) := fun w' hB => by rw [hm]; exact hU.below hB
  have HM : Hid (m = cs.length) := hm
  rw [← hm]
  obtain ⟨hlc, hcm, _⟩ := h
  clear hf hU hm
  obtain ⟨ok, hok⟩ : ∃ ok, ok = (dagB D len && csB cs) := ⟨_, rfl⟩
  have HOK : Hid (ok = (dagB D len && csB cs)) := hok
  rw [← hok]
  clear hok
  go_enter Tryz.func16, Tryz.ntmps16
  go_wp2_with fail
  refine (specDagOk_any a len cap D w (HN.out w (Below.refl _ _)) HF.out).mono ?_
  rintro e w1 ⟨rfl, hB1⟩
  have HB1 : Hid (Below w.heap.size w w1) := hB1
  clear hB1
  cases hq : dagB D len with
  | false =>
    obtain rfl : ok = false := by rw [HOK.out, hq]; rfl
    go_wp2
    go_ret2
    exact ⟨_, [], rfl, World.ownsRow_nil _ _ _ _, by simp [Up], fun x => by simp, HB1.out⟩
  | true =>
    have HQ : Hid (dagB D len = true) := hq
    have HLE : Hid (len ≤ 30) := (dagB_parts hq).1
    obtain ⟨w2, hw2⟩ : ∃ w2, w2 = w1.alloc (.cells #[.int .i64 1, .slice ua m uc] 77) := ⟨_, rfl⟩
    have hB2 : Below w1.heap.size w1 w2 := by rw [hw2]; exact (Below.refl _ _).alloc (Nat.le_refl _) _
    have HRd : Hid (RdR w2 (.slice (some ⟨w1.heap.size, 0, none⟩) 1 1) [⟨1, cs⟩]) := by
      have g2 : w2.heap[w1.heap.size]? = some (.cells #[.int .i64 1, .slice ua m uc] 77 (0, 0)) := by rw [hw2]; exact heap_alloc_new _ _
      refine ⟨_, 1, rfl, Nat.le_refl _, by omega, fun _ => ⟨w1.heap.size, 0, rfl, lt_of_block g2, fun i hi => ?_⟩⟩
      have h0 : i < 1 := hi
      obtain rfl : i = 0 := by omega
      exact ⟨cellN g2, _, cellN g2, HU.out w2 (HB1.out.trans (hB2.mono HB1.out.size))⟩
    have HB2 : Hid (Below w1.heap.size w1 w2) := hB2
    have HW2 : Hid (w2 = w1.alloc (.cells #[.int .i64 1, .slice ua m uc] 77)) := hw2
    clear hq hB2 hw2
    go_wp2_with fail
    rw [← HW2.out]
    refine (specRows_any _ _ w2 HRd.out).mono ?_
    rintro e w3 ⟨rfl, hB3⟩
    rw [rows_one]
    have HB3 : Hid (Below w.heap.size w w3) := HB1.out.trans ((HB2.out.trans (hB3.mono HB2.out.size)).mono HB1.out.size)
    clear hB3 HB2 HW2 HRd
    cases hcb : csB cs with
    | false =>
      obtain rfl : ok = false := by rw [HOK.out, hcb]; simp
      go_wp2
      go_ret2
      exact ⟨_, [], rfl, World.ownsRow_nil _ _ _ _, by simp [Up], fun x => by simp, HB3.out⟩
    | true =>
      have hm9 : m = 9 := HM.out.trans (csB_len hcb)
      subst hm9
      have H9L : Hid (9 = cs.length) := HM.out
      obtain rfl : ok = true := by rw [HOK.out, HQ.out, hcb]; rfl
      clear hcb
      go_wp2_with fail
      refine (l6All_any a len cap D w3 (HN.out w3 HB3.out) HF.out HLE.out).mono ?_
      rintro e w4 ⟨g, gc, rfl, hI4, hB4⟩
      obtain ⟨hglc, hgcm, hgc⟩ := hI4
      have HI4 : Hid (∀ w', Below w4.heap.size w4 w' → IsStrs w' g len gc (ids D)) := fun w' hB => IsStrs.below ⟨hglc, hgcm, hgc⟩ hB
      obtain ⟨w5, hw5⟩ : ∃ w5, w5 = w4.alloc (.cells #[] 9) := ⟨_, rfl⟩
      have hB45 : Below w4.heap.size w4 w5 := by rw [hw5]; exact (Below.refl _ _).alloc (Nat.le_refl _) _
      have HO5 : Hid (OwnL w5 w4.heap.size (.slice (some ⟨w4.heap.size, 0, none⟩) 0 0) []) := by rw [hw5]; exact World.ownsRow_made w4 #[] 0 (Nat.le_refl _) (by decide) rfl
      have HB4 : Hid (Below w.heap.size w w4) := HB3.out.trans (hB4.mono HB3.out.size)
      have HB45 : Hid (Below w4.heap.size w4 w5) := hB45
      have HW5 : Hid (w5 = w4.alloc (.cells #[] 9)) := hw5
      clear hB4 hB45 hw5 hgc
      go_wp2
      rw [← HW5.out]
      clear HW5
      go_loopw [8, 7] (fun i u wr => ∃ (k : Nat) (L : List (List UInt8)) (v : Value), k ≤ len ∧ i = .int .i64 k ∧ v = u ∧ OwnL wr w4.heap.size v L ∧ Hid (Sel (idsL D len) (fun x => CovP D len cs (tx x)) k L) ∧ Below w4.heap.size w4 wr) (fun i _ _ => len - (Go.RowKit.intOf i).toNat)
      case atStart => exact ⟨0, [], _, Nat.zero_le _, rfl, rfl, HO5.out, Sel.nil _ _, HB45.out⟩
      case round =>
        obtain ⟨k, L, v, hk, rfl, rfl, hO, HL, hB⟩ := hrel
        have HO : Hid (OwnL wr w4.heap.size v L) := hO
        have HB : Hid (Below w4.heap.size w4 wr) := hB
        clear hO hB
        by_cases hlt : k < len
        · have hltI : (k : Int) < (len : Int) := by omega
          obtain ⟨gb, goff, rfl, _, hgcell⟩ := (HI4.out wr HB.out).2.2 (by omega)
          have hck := hgcell k hlt
          obtain ⟨z, hz⟩ : ∃ z, z = ids D k := ⟨_, rfl⟩
          rw [← hz] at hck
          obtain ⟨w6, hw6⟩ : ∃ w6, w6 = wr.alloc (.cells #[.string z] 9) := ⟨_, rfl⟩
          have hB6 : Below wr.heap.size wr w6 := by rw [hw6]; exact (Below.refl _ _).alloc (Nat.le_refl _) _
          have hT : IsStrs w6 (some ⟨wr.heap.size, 0, none⟩) 1 1 (one z) := by
            have g6 : w6.heap[wr.heap.size]? = some (.cells #[.string z] 9 (0, 0)) := by rw [hw6]; exact heap_alloc_new _ _
            refine ⟨Nat.le_refl _, by omega, fun _ => ⟨_, 0, rfl, lt_of_block g6, fun i hi => ?_⟩⟩
            obtain rfl : i = 0 := by omega
            exact cellN g6
          have HBw6 : Hid (Below w4.heap.size w4 w6) := HB.out.trans (hB6.mono HB.out.size)
          have HC6 : Hid (Calls Tryz.prog 85 #[.slice a len cap, .slice (some ⟨gb, goff, none⟩) len gc, .slice (some ⟨wr.heap.size, 0, none⟩) 1 1] w6 fun e w' => ∃ go oc L, e = .returned (.slice (some ⟨go, 0, none⟩) L.length oc) ∧ OwnS w' w6.heap.size go oc L ∧ Up L ∧ (∀ x, x ∈ L ↔ Reach D len (one z) 1 x) ∧ Below w6.heap.size w6 w') :=
            l6Behind_any a len cap D _ gc _ 1 1 (one z) w6 HQ.out (HN.out w6 (HB4.out.trans (HBw6.out.mono HB4.out.size))) (HI4.out w6 HBw6.out) hT
          have HW6 : Hid (w6 = wr.alloc (.cells #[.string z] 9)) := hw6
          have HZ : Hid (z = ids D k) := hz
          have HO6 : Hid (OwnL w6 w4.heap.size v L) := HO.out.below hB6
          clear hT hB6 hw6 hz hgcell
          go_wp2_with fail
          rw [← HW6.out]
          refine HC6.out.mono ?_
          rintro e w7 ⟨go, oc, R, rfl, hOR, hUR, hMR, hB7⟩
          have HB7 : Hid (Below w6.heap.size w6 w7) := hB7
          obtain ⟨n, hn⟩ : ∃ n, n = R.length := ⟨_, rfl⟩
          have HR : Hid (∀ w', Below w7.heap.size w7 w' → IsStrs w' (some ⟨go, 0, none⟩) n oc (atL R)) := fun w' hB => by rw [hn]; exact hOR.strs.below hB
          have HMR : Hid (∀ x : ByteArray, outB (atL R) n x = false ↔ Reach D len (one z) 1 x.toList) := fun x => by rw [hn, out_mem, hMR]
          have HO7 : Hid (OwnL w7 w4.heap.size v L) := HO6.out.below hB7
          have HBw7 : Hid (Below w4.heap.size w4 w7) := HBw6.out.trans (hB7.mono HBw6.out.size)
          rw [← hn]
          clear hOR hUR hMR hB7 hn HC6 HW6
          go_wp2
          go_loopw [11, 10] (fun i f ws => ∃ (j : Nat) (c : Bool), j ≤ len ∧ i = .int .i64 j ∧ f = .bool c ∧ Hid (c = true ↔ ∀ t, t < j → Reach D len (one z) 1 (ids D t).toList → covB cs (D t) = true) ∧ Below w7.heap.size w7 ws) (fun i _ _ => len - (Go.RowKit.intOf i).toNat)
          case atStart => exact ⟨0, true, Nat.zero_le _, rfl, rfl, ⟨fun _ t ht => absurd ht (Nat.not_lt_zero _), fun _ => rfl⟩, Below.refl _ _⟩
          case round =>
            obtain ⟨j, c, hj, rfl, rfl, HC, hBs⟩ := hrel
            have HBs : Hid (Below w7.heap.size w7 wr) := hBs
            clear hBs
            by_cases hjt : j < len
            · have hjI : (j : Int) < (len : Int) := by omega
              have hBww : Below w.heap.size w wr := HB4.out.trans ((HBw7.out.trans (HBs.out.mono HBw7.out.size)).mono HB4.out.size)
              have hN := HN.out wr hBww
              obtain ⟨_, _, hc⟩ := hN
              obtain ⟨b, off, rfl, _, hcell⟩ := hc (by omega)
              have nd := hcell j hjt
              obtain ⟨da, hda⟩ : ∃ x, x = (D j).a := ⟨_, rfl⟩
              obtain ⟨ds, hds⟩ : ∃ x, x = (D j).s := ⟨_, rfl⟩
              have hr := (node_right (ok_at HQ.out hjt)).1
              rw [← hda] at hr
              obtain ⟨t, ht⟩ : ∃ t : Nat, da = (t : Int) + 1 := ⟨(da - 1).toNat, by omega⟩
              have ht9 : t < 9 := by omega
              have ht9I : (t : Int) < 9 := by omega
              obtain ⟨ub, uo, hue, hucell⟩ : ∃ ub uo, ua = some ⟨ub, uo, none⟩ ∧ ∀ i, i < 9 → wr.cell? ⟨ub, uo + i, none⟩ = some (.int .i64 (cs.getD i 0)) := by
                obtain ⟨a', c', e', _, _, hx⟩ := HU.out wr hBww
                rw [← H9L.out] at hx
                obtain ⟨ub, uo, e2, _, hx2⟩ := hx (by omega)
                simp only [Value.slice.injEq] at e'
                obtain ⟨rfl, _, rfl⟩ := e'
                exact ⟨ub, uo, e2, hx2⟩
              subst hue
              obtain ⟨x, hx⟩ : ∃ x, x = cs.getD t 0 := ⟨_, rfl⟩
              have hnum : x = numOf cs (D j) := by
                unfold numOf
                rw [← hda, ht, hx]
                have : ((t : Int) + 1 - 1).toNat = t := by omega
                rw [this]
              have e0 := nd.c0
              have e1 := nd.c1
              rw [← hda, ht] at e0
              rw [← hds] at e1
              have e2 := hucell t ht9
              rw [← hx] at e2
              have e3 : wr.cell? ⟨gb, goff + j, none⟩ = some (.string (ids D j)) := by
                obtain ⟨gb', go', e', _, hx⟩ := (HI4.out wr (HBw7.out.trans (HBs.out.mono HBw7.out.size))).2.2 (by omega)
                simp only [Option.some.injEq, Addr.mk.injEq, and_true] at e'
                obtain ⟨rfl, rfl⟩ := e'
                exact hx j hjt
              obtain ⟨y, hy⟩ : ∃ y, y = ids D j := ⟨_, rfl⟩
              rw [← hy] at e3
              have HY : Hid (y = ids D j) := hy
              have HCV : Hid (covB cs (D j) = !(decide (x < ds))) := by show _ = _; rw [hds]; exact cov_iff hnum
              have p0 : ∀ s : Later wr, s.val.cell? ⟨b, off + j * 6, none⟩ = some (.int .i64 ((t : Int) + 1)) := fun s => s.cell e0
              have p1 : ∀ s : Later wr, s.val.cell? ⟨b, off + j * 6 + 1, none⟩ = some (.int .i64 ds) := fun s => s.cell e1
              have p2 : ∀ s : Later wr, s.val.cell? ⟨ub, uo + t, none⟩ = some (.int .i64 x) := fun s => s.cell e2
              have p3 : ∀ s : Later wr, s.val.cell? ⟨gb, goff + j, none⟩ = some (.string y) := fun s => s.cell e3
              have hne := Later.any wr
              have hg1 : decide ((9 : Int) < (t : Int) + 1) = false := by simp; omega
              have hsub : ((t : Int) + 1) - 1 = (t : Int) := by omega
              have hwr : IntKind.i64.wrap ((t : Int) + 1 - 1) = (t : Int) := by rw [IntKind.wrap_i64]; omega
              have hwi : IntKind.i64.wrap (t : Int) = (t : Int) := by rw [IntKind.wrap_i64]; omega
              obtain ⟨r, hrr⟩ : ∃ r, r = !(outB (atL R) n y) := ⟨_, rfl⟩
              have HRR : Hid (r = true ↔ Reach D len (one z) 1 (ids D j).toList) := by
                show _ ↔ _
                rw [← hy, ← HMR.out y, hrr]
                simp
              have HHS : Hid (∀ s : Later wr, Calls Tryz.prog 86 #[.slice (some ⟨go, 0, none⟩) n oc, .string y] s.val fun e w' => e = .returned (.bool r) ∧ Below s.val.heap.size s.val w') := fun s =>
                l1Has_below _ n oc (atL R) y s.val (HR.out s.val (HBs.out.trans (s.ok.mono HBs.out.size))) r hrr.symm
              clear hrr hy e0 e1 e2 e3 hda hds hr ht hx hnum nd hcell hc hucell hBww
              cases r with
              | false =>
                have HC' : Hid (c = true ↔ ∀ t, t < j + 1 → Reach D len (one z) 1 (ids D t).toList → covB cs (D t) = true) := by
                  show _ ↔ _
                  rw [HC.out]
                  refine ⟨fun h t ht hr => ?_, fun h t ht => h t (by omega)⟩
                  rcases Nat.lt_succ_iff_lt_or_eq.1 ht with h1 | rfl
                  · exact h t h1 hr
                  · exact absurd (HRR.out.2 hr) (by simp)
                go_wp2
                refine wp_region_later (by kernel_rfl) (by kernel_rfl) ?_
                repeat (go_big_quiet_step ((rename_i s; with_reducible exact Calls.later (HHS.out s))))
                refine wpQuiet_nil ?_
                rintro _ ⟨⟨w', hB2⟩, rfl⟩
                go_wp2
                go_roundw
                case rel => exact ⟨j + 1, c, by omega, by go_num, rfl, HC', HBs.out.trans (hB2.mono HBs.out.size)⟩
                case measure => simp [Go.RowKit.intOf]; omega
              | true =>
                cases hlx : decide (x < ds) with
                | false =>
                  have HC' : Hid (c = true ↔ ∀ t, t < j + 1 → Reach D len (one z) 1 (ids D t).toList → covB cs (D t) = true) := by
                    show _ ↔ _
                    rw [HC.out]
                    refine ⟨fun h t ht hr => ?_, fun h t ht => h t (by omega)⟩
                    rcases Nat.lt_succ_iff_lt_or_eq.1 ht with h1 | rfl
                    · exact h t h1 hr
                    · rw [HCV.out, hlx]; rfl
                  go_wp2
                  refine wp_region_later (by kernel_rfl) (by kernel_rfl) ?_
                  repeat (go_big_quiet_step ((rename_i s; with_reducible exact Calls.later (HHS.out s))))
                  refine wpQuiet_nil ?_
                  rintro _ ⟨⟨w', hB2⟩, rfl⟩
                  go_wp2
                  go_roundw
                  case rel => exact ⟨j + 1, c, by omega, by go_num, rfl, HC', HBs.out.trans (hB2.mono HBs.out.size)⟩
                  case measure => simp [Go.RowKit.intOf]; omega
                | true =>
                  have HC' : Hid (false = true ↔ ∀ t, t < j + 1 → Reach D len (one z) 1 (ids D t).toList → covB cs (D t) = true) := by
                    show _ ↔ _
                    refine ⟨fun h => (by cases h), fun h => ?_⟩
                    have := h j (by omega) (HRR.out.1 rfl)
                    rw [HCV.out, hlx] at this
                    cases this
                  go_wp2
                  refine wp_region_later (by kernel_rfl) (by kernel_rfl) ?_
                  repeat (go_big_quiet_step ((rename_i s; with_reducible exact Calls.later (HHS.out s))))
                  refine wpQuiet_nil ?_
                  rintro _ ⟨⟨w', hB2⟩, rfl⟩
                  go_wp2
                  go_roundw
                  case rel => exact ⟨j + 1, false, by omega, by go_num, rfl, HC', HBs.out.trans (hB2.mono HBs.out.size)⟩
                  case measure => simp [Go.RowKit.intOf]; omega
            · have hje : j = len := by omega
              have HCP : Hid (c = true ↔ CovP D len cs z) := by
                show _ ↔ _
                rw [HC.out, hje]
                rfl
              have HBs8 : Hid (Below w4.heap.size w4 wr) := HBw7.out.trans (HBs.out.mono HBw7.out.size)
              have HO8 : Hid (OwnL wr w4.heap.size v L) := HO7.out.below HBs.out
              have hzt : tx ((idsL D len).getD k []) = z := by rw [idsL_at hlt, HZ.out, tx_toList]
              have hzl : (idsL D len).getD k [] = z.toList := by rw [← hzt, tx_list]
              cases c with
              | false =>
                have HL' : Hid (Sel (idsL D len) (fun x => CovP D len cs (tx x)) (k + 1) L) := HL.out.skip (fun hp => by
                  rw [hzt] at hp
                  have := HCP.out.2 hp
                  cases this)
                clear hzt hzl
                go_wp2
                go_roundw
                case rel => exact ⟨k + 1, L, _, by omega, by go_num, rfl, HO8.out, HL'.out, HBs8.out⟩
                case measure => simp [Go.RowKit.intOf]; omega
              | true =>
                have HL' : Hid (Sel (idsL D len) (fun x => CovP D len cs (tx x)) (k + 1) (L ++ [z.toList])) := by
                  rw [← hzl]
                  exact HL.out.add (idsR_up HQ.out) (by rw [idsL_len]; exact hlt) (by
                    show CovP _ _ _ _
                    rw [hzt]
                    exact HCP.out.1 rfl)
                have HLk : Hid (L.length ≤ 30) := by show _ ≤ _; have := HL.out.len; have := HLE.out; omega
                have HC1 : Hid (L.length + 1 ≤ maxLen ∧ (L.length + 1) * 16 ≤ 140737488355328) := ⟨by unfold maxLen; have := HLk.out; omega, by have := HLk.out; omega⟩
                have HO8x : Hid (wr.ownsRow w4.heap.size 9 1 v L.length (L.map encStr)) := HO8.out
                have e3 : wr.cell? ⟨gb, goff + k, none⟩ = some (.string z) := by
                  obtain ⟨gb', go', e', _, hx⟩ := (HI4.out wr HBs8.out).2.2 (by omega)
                  simp only [Option.some.injEq, Addr.mk.injEq, and_true] at e'
                  obtain ⟨rfl, rfl⟩ := e'
                  rw [HZ.out]
                  exact hx k hlt
                clear hzt hzl
                go_wp2_with (at_builtin; refine wpList_append_own _ rfl _ _ 25 rfl w4.heap.size 9 i0 (.string ⟨#[]⟩) 1 16 Tryz.underlying25 hi hz0 hz1 hz2 rfl (by decide) _ L.length _ rfl (HO8x.out.alloc _) ⟨wr.heap.size, 0, none⟩ 1 1 [.string z] rfl rfl (World.news_of_block (heap_alloc_new _ _)) (fun u hu => by simp at hu; subst hu; rfl) HC1.out.1 HC1.out.2 (by have := HBs8.out.size; simp; omega) ?_; intro v7 w9 hown7 hgrow7 hnil7)
                have HF7 : Hid (OwnL w9 w4.heap.size v7 (L ++ [z.toList]) ∧ Below w4.heap.size w4 w9) := by
                  refine ⟨?_, (HBs8.out.alloc HBs8.out.size _).grown hgrow7 (by have := HBs8.out.size; simp; omega) (fun x hx => (World.ownsRow.lt HO8x.out x hx).1)⟩
                  unfold OwnL
                  rw [List.map_append, List.map_cons, List.map_nil, enc_str, List.length_append]
                  exact hown7
                clear hown7 hgrow7 hnil7
                go_wp2
                go_roundw
                case rel => exact ⟨k + 1, _, _, by omega, by go_num, rfl, HF7.out.1, HL'.out, HF7.out.2⟩
                case measure => simp [Go.RowKit.intOf]; omega
        · have hke : k = len := by omega
          have HX : Hid (∀ x, x ∈ L ↔ SetP D len cs x) := fun x => by
            rw [HL.out.mem x]
            constructor
            · rintro ⟨i, hi, e, hp⟩
              exact ⟨⟨i, by omega, by rw [← e, idsL_at (by omega)]⟩, hp⟩
            · rintro ⟨⟨i, hi, e⟩, h2⟩
              exact ⟨i, by omega, by rw [idsL_at hi]; exact e, h2⟩
          clear hk
          go_wp2
          go_ret2
          exact ⟨v, rfl, L, mono_base HO.out HB4.out.size, HL.out.up, fun x => by rw [HX.out x] <;> simp, HB4.out.trans (HB.out.mono HB4.out.size)⟩
end Go.Proofs.YtlibipbpaigmdaaGreatDoor

namespace Go.Proofs.YtlibipbpaigmdaaGreatDoor
open Go.RowKit
set_option linter.unusedVariables false

theorem Rw.kept2 {p : Nat → Prop} {w w' : World} {g n : Nat} (h : Rw w g n) (hK : Kept p w w') (hp : p g) : Rw w' g n := h.kept (hK.block g h.lt hp)

end Go.Proofs.YtlibipbpaigmdaaGreatDoor

namespace Go.Proofs.YtlibipbpaigmdaaGreatDoor
open Go.RowKit
set_option linter.unusedVariables false

def setR (lo : (List UInt8 → Prop) → List (List UInt8)) (D : Nat → Nd) (len : Nat) (cs : List Int) : List (List UInt8) := lo fun x => (dagB D len && csB cs) = true ∧ SetP D len cs x
theorem setP_at (D : Nat → Nd) (G : Nat → Nat) (len : Nat) (cs : List Int) (x : List UInt8) : SetP (fun i => (D i).at (G i)) len cs x ↔ SetP D len cs x := by
  unfold SetP CovP
  refine and_congr Iff.rfl (forall_congr' fun i => imp_congr Iff.rfl ?_)
  rw [reach_at]
  exact Iff.rfl
theorem setR_at (lo : (List UInt8 → Prop) → List (List UInt8)) (D : Nat → Nd) (G : Nat → Nat) (len : Nat) (cs : List Int) : setR lo (fun i => (D i).at (G i)) len cs = setR lo D len cs := by
  unfold setR
  exact listOf_congr (fun x => by rw [setP_at]; rfl)
theorem setR_len {lo : (List UInt8 → Prop) → List (List UInt8)} (hlo : IsLo lo) (D : Nat → Nd) (len : Nat) (cs : List Int) : (setR lo D len cs).length ≤ 1000000 := by
  by_cases hq : dagB D len = true
  · exact listOf_len hlo (idsL D len) (by rw [idsL_len]; have := (dagB_parts hq).1; omega) (fun x hx => (idsL_mem D len x).2 hx.2.1)
  · exact listOf_len hlo [] (by simp) (fun x hx => by
      have h1 := hx.1
      simp only [Bool.and_eq_true] at h1
      exact absurd h1.1 hq)
theorem implSettled_R (lo : (List UInt8 → Prop) → List (List UInt8)) (hlo : IsLo lo) (a : Option Addr) (len cap : Nat) (D : Nat → Nd) (u : Value) (cs : List Int) (w : World) (h : IsNds w a len cap D) (hf : Fine D len) (hU : RdI w u cs) (hP : AllT w) :
    Calls Tryz.prog 19 #[.slice a len cap, u] w fun e w' => ∃ v, e = .returned (.tuple #[v, .bool (dagB D len && csB cs)]) ∧ OwnL w' w.heap.size v (setR lo D len cs) ∧ Below w.heap.size w w' := by
  refine (implSettled_any a len cap D u cs w h hf hU hP).mono ?_
  rintro e w' ⟨v, L, rfl, ho, hUp, hM, hB⟩
  exact ⟨v, rfl, by unfold setR; rw [← listOf_is hlo hUp hM]; exact ho, hB⟩
theorem specSettled_R (lo : (List UInt8 → Prop) → List (List UInt8)) (hlo : IsLo lo) (a : Option Addr) (len cap : Nat) (D : Nat → Nd) (u : Value) (cs : List Int) (w : World) (h : IsNds w a len cap D) (hf : Fine D len) (hU : RdI w u cs) :
    Calls Tryz.prog 16 #[.slice a len cap, u] w fun e w' => ∃ v, e = .returned (.tuple #[v, .bool (dagB D len && csB cs)]) ∧ OwnL w' w.heap.size v (setR lo D len cs) ∧ Below w.heap.size w w' := by
  refine (specSettled_any a len cap D u cs w h hf hU).mono ?_
  rintro e w' ⟨v, L, rfl, ho, hUp, hM, hB⟩
  exact ⟨v, rfl, by unfold setR; rw [← listOf_is hlo hUp hM]; exact ho, hB⟩

theorem OwnI.keptK {p : Nat → Prop} {w w' : World} {base : Nat} {v : Value} {L : List Int} (h : OwnI w base v L) (hK : Kept p w w') (hp : ∀ b, base ≤ b → p b) : OwnI w' base v L := by
  obtain ⟨h1, h2⟩ := h
  refine ⟨h1, ?_⟩
  rcases h2 with h2 | ⟨g, cap, cur, hv, hg, hh, r⟩
  · exact Or.inl h2
  · exact Or.inr ⟨g, cap, cur, hv, hg, (hK.block g (lt_of_block hh) (hp g hg)).trans hh, r⟩
theorem markI_int (z : Int) (base : Nat) (v : Value) (L : List Int) (s : Nat) (hz : z = (s : Int)) (w : World) (h : OwnI w base v L) (hb : L.length ≤ 1048576) (hs : s ≤ 2199023255552) :
    Calls Tryz.prog 24 #[v, .int .i64 z] w fun e w' => e = .returned (.int .i64 ((s + L.length : Nat) : Int)) ∧ OwnI w' base v (marksI s L.length) ∧ w.grownBy w' v.ownBlock := by
  subst hz
  exact markI_any base v L s w h hb hs

theorem toI_v (v : Value) (L : List Int) (w : World) (h : RdI w v L) (hlen : L.length ≤ 1048576) :
    Calls Tryz.prog 18 #[v] w fun e w' => ∃ t, e = .returned t ∧ OwnI w' w.heap.size t L ∧ Below w.heap.size w w' := by
  refine (toI_any v L w h hlen).mono ?_
  rintro e w' ⟨rfl, h1, h2⟩
  exact ⟨_, rfl, h1, h2⟩

set_option maxHeartbeats 4000000 in
theorem lawSt_walk (lo : (List UInt8 → Prop) → List (List UInt8)) (hlo : IsLo lo) (a : Option Addr) (len cap : Nat) (D : Nat → Nd) (au : Option Addr) (ucap : Nat) (cs : List Int) (w : World) (h : IsNds w a len cap D) (hf : Fine D len) (hU : RdI w (.slice au cs.length ucap) cs) (hP : AllT w) :
    Calls Tryz.prog 3 #[.slice a len cap, .slice au cs.length ucap] w fun e w' => e = .returned (.bool true) ∧ Below w.heap.size w w' := by
  obtain ⟨m, hm⟩ : ∃ m, m = cs.length := ⟨_, rfl⟩
  have HM : Hid (m = cs.length) := hm
  rw [← hm] at hU ⊢
  have hlc : m ≤ 9223372036854775807 := by
    obtain ⟨a', c', e', h1, h2, _⟩ := hU
    rw [hm]
    omega
  clear hm
  by_cases hbig : (1048576 : Int) < (m : Int)
  · go_enter Tryz.func3, Tryz.ntmps3
    go_wp2
    go_ret
    exact ⟨rfl, Below.refl _ _⟩
  have hbigI : decide ((1048576 : Int) < (m : Int)) = false := by simpa using hbig
  have hml : m ≤ 1048576 := by omega
  have hcl : cs.length ≤ 1048576 := by rw [← HM.out]; exact hml
  go_enter Tryz.func3, Tryz.ntmps3
  go_wp2_with fail
  refine (szNodeS_top a len cap D _ h hf).mono ?_
  rintro e w1 ⟨r, rfl, hr, b1⟩
  rcases hr with hr | ⟨hr, hr2, hl, hz⟩
  · go_wp2
    go_ret
    exact ⟨rfl, b1⟩
  clear hr2 hbig
  go_wp2_with fail
  refine (toNodeS_any a len cap D _ (h.below b1) hl hz).mono ?_
  rintro e w2 ⟨g2, G2, rfl, i2, hB2⟩
  have b2 := b1.trans (hB2.mono b1.size)
  have f2 : Fine (fun i => (D i).at (G2 i)) len := hf
  go_wp2_with fail
  refine (toI_v _ cs _ (hU.below b2) hcl).mono ?_
  rintro e w2' ⟨t2, rfl, j2, hB2'⟩
  have b2' := b2.trans (hB2'.mono b2.size)
  have HS3 : Hid (Calls Tryz.prog 16 #[.slice (some ⟨g2, 0, none⟩) len len, t2] w2' fun e w' => ∃ v, e = .returned (.tuple #[v, .bool (dagB D len && csB cs)]) ∧ OwnL w' w2'.heap.size v (setR lo D len cs) ∧ Below w2'.heap.size w2' w') := by
    have := specSettled_R lo hlo _ len len _ t2 cs w2' (i2.below hB2') f2 j2.rd
    rw [setR_at lo D G2] at this
    exact this
  obtain ⟨L, hL⟩ : ∃ L, L = setR lo D len cs := ⟨_, rfl⟩
  obtain ⟨ok, hok⟩ : ∃ ok, ok = (dagB D len && csB cs) := ⟨_, rfl⟩
  rw [← hL, ← hok] at HS3
  have HL : Hid (L = setR lo D len cs) := hL
  have HOK : Hid (ok = (dagB D len && csB cs)) := hok
  have hokn : (ok != ok) = false := by simp
  clear hL hok hB2 i2 f2 j2 hB2'
  go_wp2_with fail
  refine HS3.out.mono ?_
  rintro e w3 ⟨v3, rfl, o3, hB3⟩
  have b3 := b2'.trans (hB3.mono b2'.size)
  clear hB3 HS3 b2'
  obtain ⟨a3, c3, rfl, i3, q3⟩ := o3.strs2
  go_wp2_with fail
  refine (toNodeS_own a len cap D _ (h.below b3) hl hz).mono ?_
  rintro e w4 ⟨g4, G4, rfl, i4, hB4, n4⟩
  have b4 := b3.trans (hB4.mono b3.size)
  have f4 : Fine (fun i => (D i).at (G4 i)) len := hf
  go_wp2_with fail
  refine (toI_v _ cs _ (hU.below b4) hcl).mono ?_
  rintro e w5 ⟨t5, rfl, j5, hB5⟩
  have b5 := b4.trans (hB5.mono b4.size)
  have HI6 : Hid (Calls Tryz.prog 19 #[.slice (some ⟨g4, 0, none⟩) len len, t5] w5 fun e w' => ∃ v, e = .returned (.tuple #[v, .bool ok]) ∧ OwnL w' w5.heap.size v L ∧ Below w5.heap.size w5 w') := by
    have := implSettled_R lo hlo _ len len _ t5 cs w5 (i4.below hB5) f4 j5.rd (hP.below b5)
    rw [setR_at lo D G4, ← HL.out] at this
    rw [HOK.out]
    exact this
  clear f4
  go_wp2_with fail
  refine HI6.out.mono ?_
  rintro e w6 ⟨v6, rfl, o6, hB6⟩
  have b6 := b5.trans (hB6.mono b5.size)
  have B5 : Below w3.heap.size w3 w5 := hB4.trans (hB5.mono hB4.size)
  have B6 : Below w3.heap.size w3 w6 := B5.trans (hB6.mono B5.size)
  obtain ⟨a6, c6, rfl, i6, q6⟩ := o6.strs2
  go_wp2_with fail
  refine (eqStringS_same _ _ _ _ _ _ _ i6 (i3.below B6)).mono ?_
  rintro e w7 ⟨rfl, hB7⟩
  have b7 := b6.trans (hB7.mono b6.size)
  go_wp2_with fail
  refine (toNodeS_any a len cap D _ (h.below b7) hl hz).mono ?_
  rintro e w8 ⟨g8, G8, rfl, i8, hB8⟩
  have b8 := b7.trans (hB8.mono b7.size)
  have H68 : Below w6.heap.size w6 w8 := hB7.trans (hB8.mono hB7.size)
  have H58 : Below w5.heap.size w5 w8 := hB6.trans (H68.mono hB6.size)
  have H48 : Below w4.heap.size w4 w8 := hB5.trans (H58.mono hB5.size)
  go_wp2_with fail
  refine (eqNodeS_like _ _ len len len _ _ _ (i4.below H48) i8 (fun i hi => ⟨rfl, rfl, rfl, rfl, rfl, rfl, rfl⟩)).mono ?_
  rintro e w9 ⟨rfl, hB9⟩
  have b9 := b8.trans (hB9.mono b8.size)
  have H59 : Below w5.heap.size w5 w9 := H58.trans (hB9.mono H58.size)
  go_wp2_with fail
  refine (toI_v _ cs _ (hU.below b9) hcl).mono ?_
  rintro e w10 ⟨t10, rfl, j10, hB10⟩
  have b10 := b9.trans (hB10.mono b9.size)
  have H510 : Below w5.heap.size w5 w10 := H59.trans (hB10.mono H59.size)
  go_wp2_with fail
  refine (eqI_same _ _ _ _ (j5.rd.below H510) j10.rd).mono ?_
  rintro e w11 ⟨rfl, hB11⟩
  have b11 := b10.trans (hB11.mono b10.size)
  have H611 : Below w6.heap.size w6 w11 := H68.trans ((hB9.trans ((hB10.trans (hB11.mono hB10.size)).mono hB9.size)).mono H68.size)
  have H511 : Below w5.heap.size w5 w11 := H510.trans (hB11.mono H510.size)
  have H411 : Below w4.heap.size w4 w11 := hB5.trans (H511.mono hB5.size)
  have B11 : Below w3.heap.size w3 w11 := hB4.trans (H411.mono hB4.size)
  have n11 := n4.below H411
  have r11 := j5.below H511
  go_wp2_with fail
  refine (markNodeS_any g4 len w3.heap.size w4.heap.size G4 _ _ n11 hl hz n4.top.1 n4.top.2).mono ?_
  rintro e w12 ⟨k12, rfl, hk12, hk12', K12⟩
  have s34 : w3.heap.size ≤ w4.heap.size := hB4.size
  have s45 : w4.heap.size ≤ w5.heap.size := hB5.size
  have s311 : w3.heap.size ≤ w11.heap.size := B11.size
  have B12 : Below w3.heap.size w3 w12 := B11.trans ((K12.mono (fun k hk => .inl hk)).below s311)
  have b12 : Below w.heap.size w w12 := b11.trans (((K12.mono (fun k hk => .inl hk)).below s311).mono b3.size)
  have i12 := (i6.below H611).kept K12 (fun b off e => .inr (by have := (q6 b off e).1; omega))
  have o12 : OwnL w12 w5.heap.size (.slice a6 L.length c6) L := ((o6.below H611).kept K12 (fun b hb => .inr (by omega)))
  have r12 : OwnI w12 w4.heap.size t5 cs := r11.keptK K12 (fun b hb => .inr hb)
  have hrow5 : ∀ k, t5.ownBlock = some k → w4.heap.size ≤ k ∧ k < w5.heap.size := fun k hk => World.ownsRow.lt j5 k hk
  have HCL : Hid (cs.length = m) := HM.out.symm
  clear hB4 hB5 hB6 hB7 hB8 hB9 hB10 hB11 H48 H58 H59 H68 H510 H511 H411 H611 n4 n11 j5 r11 i8 i4 j10 i6 B5 B6 B11 o6
  go_wp2_with fail
  refine (markI_int _ _ t5 cs k12 rfl _ r12 hcl (by omega)).mono ?_
  rintro e w13 ⟨rfl, _, hG13⟩
  have s312 : w3.heap.size ≤ w12.heap.size := B12.size
  have B13 : Below w3.heap.size w3 w13 := B12.grown hG13 B12.size (fun k hk => by have := (hrow5 k hk).1; omega)
  have b13 : Below w.heap.size w w13 := b12.grown hG13 b12.size (fun k hk => by have := (hrow5 k hk).1; have := b4.size; omega)
  have K13 : Kept (fun b => w5.heap.size ≤ b) w12 w13 := Kept.of_grown hG13 (fun k hk => by have := (hrow5 k hk).2; omega)
  have i13 := i12.kept K13 (fun b off e => (q6 b off e).1)
  have o13 : OwnL w13 w5.heap.size (.slice a6 L.length c6) L := o12.kept K13 (fun b hb => hb)
  have hkn : decide (((k12 + cs.length : Nat) : Int) < 0) = false := by simp; omega
  have H313 := i3.below B13
  clear hG13 hrow5 K12 K13 i12 o12 r12
  go_wp2_with fail
  refine (eqStringS_same _ _ _ _ _ _ _ i13 H313).mono ?_
  rintro e w14 ⟨rfl, hB14⟩
  have b14 := b13.trans (hB14.mono b13.size)
  have B14 := B13.trans (hB14.mono B13.size)
  have o14 := o13.below hB14
  obtain ⟨n, hn⟩ : ∃ n, n = L.length := ⟨_, rfl⟩
  have HLL : Hid (L.length ≤ 1000000) := by show _ ≤ _; rw [HL.out]; exact setR_len hlo D len cs
  clear hkn H313 i13 o13
  rw [← hn] at o14 i3 HLL ⊢
  have HN : Hid (n = L.length) := hn
  have o14' : w14.ownsRow w5.heap.size 9 1 (.slice a6 n c6) n (L.map encStr) := by have := o14; unfold OwnL at this; rw [← hn] at this; exact this
  clear hn o14
  go_wp2_with fail
  refine (markStringS_any a6 n c6 w5.heap.size (L.map encStr) 1 _ o14' (by omega) (by have := HLL.out; omega)).mono ?_
  rintro e w15 ⟨rfl, o15, hG15⟩
  have hrow : ∀ k, (Value.slice a6 n c6).ownBlock = some k → w5.heap.size ≤ k := fun k hk => (o14'.lt k hk).1
  have b15 := b14.grown hG15 b14.size (fun k hk => by have := hrow k hk; have := b5.size; omega)
  have B15 := B14.grown hG15 B14.size (fun k hk => by have := hrow k hk; omega)
  have i15 : IsStrs w15 a6 n c6 (fun i => mt (1 + i)) := by
    obtain ⟨a', cap', e', hI⟩ := strs_of_own (S := fun i => mt (1 + i)) o15 (fun i hi => marks_at hi)
    simp only [Value.slice.injEq, true_and] at e'
    obtain ⟨rfl, rfl⟩ := e'
    exact hI
  clear o14' hG15 hrow o15
  have hq1 : decide (((1 + n : Nat) : Int) < 0) = false := by simp; omega
  have hq2 : ((((1 + n : Nat) : Int)) != ((1 + n : Nat) : Int)) = false := by simp
  go_wp2_with fail
  refine (heldStringS_any a6 n c6 1 _ i15 (by omega) (by have := HLL.out; omega)).mono ?_
  rintro e w16 ⟨rfl, hB16⟩
  have b16 := b15.trans (hB16.mono b15.size)
  have B16 := B15.trans (hB16.mono B15.size)
  go_wp2_with fail
  refine (toNodeS_any a len cap D _ (h.below b16) hl hz).mono ?_
  rintro e w17 ⟨g17, G17, rfl, i17, hB17⟩
  have b17 := b16.trans (hB17.mono b16.size)
  have B17 := B16.trans (hB17.mono B16.size)
  have f17 : Fine (fun i => (D i).at (G17 i)) len := hf
  go_wp2_with fail
  refine (toI_v _ cs _ (hU.below b17) hcl).mono ?_
  rintro e w18 ⟨t18, rfl, j18, hB18⟩
  have b18 := b17.trans (hB18.mono b17.size)
  have B18 := B17.trans (hB18.mono B17.size)
  have HI19 : Hid (Calls Tryz.prog 19 #[.slice (some ⟨g17, 0, none⟩) len len, t18] w18 fun e w' => ∃ v, e = .returned (.tuple #[v, .bool ok]) ∧ OwnL w' w18.heap.size v L ∧ Below w18.heap.size w18 w') := by
    have := implSettled_R lo hlo _ len len _ t18 cs w18 (i17.below hB18) f17 j18.rd (hP.below b18)
    rw [setR_at lo D G17, ← HL.out] at this
    rw [HOK.out]
    exact this
  clear f17
  go_wp2_with fail
  refine HI19.out.mono ?_
  rintro e w19 ⟨v19, rfl, o19, hB19⟩
  have b19 := b18.trans (hB19.mono b18.size)
  have B19 := B18.trans (hB19.mono B18.size)
  obtain ⟨a19, c19, rfl, i19, q19⟩ := o19.strs2
  rw [← HN.out] at i19 ⊢
  have H3 := i3.below B19
  clear o19
  go_wp2_with fail
  refine (eqStringS_same _ _ _ _ _ _ _ i19 H3).mono ?_
  rintro e w20 ⟨rfl, hB20⟩
  have b20 := b19.trans (hB20.mono b19.size)
  have i20 := i15.below (hB16.trans ((hB17.trans ((hB18.trans ((hB19.trans (hB20.mono hB19.size)).mono hB18.size)).mono hB17.size)).mono hB16.size))
  go_wp2_with fail
  refine (heldStringS_any a6 n c6 1 _ i20 (by omega) (by have := HLL.out; omega)).mono ?_
  rintro e w21 ⟨rfl, hB21⟩
  go_wp2
  go_ret
  exact ⟨rfl, b20.trans (hB21.mono b20.size)⟩
end Go.Proofs.YtlibipbpaigmdaaGreatDoor

namespace Go.Proofs.YtlibipbpaigmdaaGreatDoor
open Go.ChangeShapes Go.WideShapes Go.ChangeAt Go.RowKit Go.Deep
set_option linter.unusedVariables false

theorem cellsI64 : Tryz.prog.cellsOf 2 = 1 := by kernel_rfl

theorem open_i64 {H : Type} {enc : TypeId × Value → H} {W : World} {n : Nat} {v : Value} {x : DataW H × List MemPlace} (h : DataW.trod enc Tryz.prog W 0 (fun _ => true) true n 23 [v] = some x) :
    ∃ L : List Int, RdI W v L ∧ ∀ z ∈ L, (Lit.int .i64 z).wf = true := by
  rcases open_ints Tryz.underlying23 Tryz.underlying2 cellsI64 h with ⟨hcs, _⟩ | ⟨a, l, c, zs, hcs, _, hl, hm, hz, _, hcell, hwz⟩
  · simp at hcs
    exact ⟨[], ⟨none, 0, hcs, Nat.le_refl _, by omega, fun h => absurd h (Nat.lt_irrefl _)⟩, fun z hz => by cases hz⟩
  · simp at hcs
    have hzc : zs.length = c := by simpa using hz
    have hzl : (zs.take l).length = l := by rw [List.length_take]; omega
    refine ⟨zs.take l, ⟨some a, c, by rw [hzl]; exact hcs, by rw [hzl]; exact hl, by unfold maxLen at hm; omega, fun hp => ?_⟩, fun z hz' => hwz z (List.mem_of_mem_take hz')⟩
    rw [hzl] at hp ⊢
    obtain ⟨b, off, spot⟩ := a
    have hc0 := hcell 0 (by omega)
    have hspot : spot = none := by simpa [Addr.add] using World.cell?_spot hc0
    subst hspot
    refine ⟨b, off, rfl, ?_, fun i hi => ?_⟩
    · rcases Nat.lt_or_ge b W.heap.size with h' | h'
      · exact h'
      · simp [Addr.add, World.cell?, Array.getElem?_eq_none h'] at hc0
    · have := hcell i (by omega)
      rw [add_plain] at this
      have e : (zs.take l).getD i 0 = zs.getD i 0 := by simp [List.getD_eq_getElem?_getD, hi]
      rw [e]
      exact this

end Go.Proofs.YtlibipbpaigmdaaGreatDoor
