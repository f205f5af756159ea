/-
  Contracts of the library at this program: slices.Clone, BinarySearch, Insert on texts.
  slices.Insert of one text into a slice of texts that the call owns. No condition but that it is not too long.
  Learned, of both: what is known with one text more. No condition but that the slices read and are not too long.
-/
import Derived.Shelf.Slices.Clone
import Derived.Shelf.Spec.SearchS
import Derived.Shelf.Spec.SlicesInsert
import Derived.Shelf.Spec.SlicesInsertGrow
import Derived.Test.YtpcbhjejpebogaaGreatDoorProg
import Derived.Test.YtpcbhjejpebogaaGreatDoorLPut
namespace Go.Proofs
open Go.Shelf
def Tryz.cloneL_ren : Go.Shelf.Ren := ⟨fun | 16 => 38 | n => n, fun | 24 => 24 | 9 => 9 | 4 => 4 | n => n, fun | n => n⟩
theorem Tryz.cloneL : Go.Proofs.Lays2.n16 Tryz.prog Tryz.cloneL_ren := {
  mixed := by kernel_rfl
  f16 := Tryz.func38.trans (congrArg some (by kernel_rfl))
  t4 := Tryz.underlying4
  a4 := Tryz.isAgg4
  z4 := Tryz.sizeOf4
  v4 := Tryz.zeroValue4
  t9 := Tryz.underlying9
  a9 := Tryz.isAgg9
  z9 := Tryz.sizeOf9
  v9 := Tryz.zeroValue9
  t24 := Tryz.underlying24
  a24 := Tryz.isAgg24
  z24 := Tryz.sizeOf24
  v24 := Tryz.zeroValue24
  i9 := by kernel_rfl }
def Tryz.searchL_ren : Go.Shelf.Ren := ⟨fun | 26 => 39 | 33 => 64 | 34 => 65 | 38 => 89 | n => n, fun | 24 => 24 | 9 => 9 | 3 => 3 | 4 => 4 | 40 => 99 | 0 => 0 | n => n, fun | n => n⟩
theorem Tryz.searchL : Go.Proofs.Lays2.n26 Tryz.prog Tryz.searchL_ren := {
  mixed := by kernel_rfl
  f26 := Tryz.func39.trans (congrArg some (by kernel_rfl))
  f33 := Tryz.func64.trans (congrArg some (by kernel_rfl))
  f34 := Tryz.func65.trans (congrArg some (by kernel_rfl))
  f38 := Tryz.func89.trans (congrArg some (by kernel_rfl))
  t0 := Tryz.underlying0
  a0 := Tryz.isAgg0
  z0 := Tryz.sizeOf0
  v0 := Tryz.zeroValue0
  t3 := Tryz.underlying3
  a3 := Tryz.isAgg3
  z3 := Tryz.sizeOf3
  v3 := Tryz.zeroValue3
  t4 := Tryz.underlying4
  a4 := Tryz.isAgg4
  z4 := Tryz.sizeOf4
  v4 := Tryz.zeroValue4
  t9 := Tryz.underlying9
  a9 := Tryz.isAgg9
  z9 := Tryz.sizeOf9
  v9 := Tryz.zeroValue9
  t24 := Tryz.underlying24
  a24 := Tryz.isAgg24
  z24 := Tryz.sizeOf24
  v24 := Tryz.zeroValue24
  t40 := Tryz.underlying99
  a40 := Tryz.isAgg99
  z40 := Tryz.sizeOf99
  v40 := Tryz.zeroValue99 }
def Tryz.insertL_ren : Go.Shelf.Ren := ⟨fun | 22 => 40 | 29 => 66 | 30 => 67 | 36 => 90 | 17 => 112 | n => n, fun | 24 => 24 | 9 => 9 | 3 => 3 | 4 => 4 | 0 => 0 | n => n, fun | n => n⟩
theorem Tryz.insertL : Go.Proofs.Lays2.n22 Tryz.prog Tryz.insertL_ren := {
  mixed := by kernel_rfl
  f17 := Tryz.func112.trans (congrArg some (by kernel_rfl))
  f22 := Tryz.func40.trans (congrArg some (by kernel_rfl))
  f29 := Tryz.func66.trans (congrArg some (by kernel_rfl))
  f30 := Tryz.func67.trans (congrArg some (by kernel_rfl))
  f36 := Tryz.func90.trans (congrArg some (by kernel_rfl))
  t0 := Tryz.underlying0
  a0 := Tryz.isAgg0
  z0 := Tryz.sizeOf0
  v0 := Tryz.zeroValue0
  t3 := Tryz.underlying3
  a3 := Tryz.isAgg3
  z3 := Tryz.sizeOf3
  v3 := Tryz.zeroValue3
  t4 := Tryz.underlying4
  a4 := Tryz.isAgg4
  z4 := Tryz.sizeOf4
  v4 := Tryz.zeroValue4
  t9 := Tryz.underlying9
  a9 := Tryz.isAgg9
  z9 := Tryz.sizeOf9
  v9 := Tryz.zeroValue9
  t24 := Tryz.underlying24
  a24 := Tryz.isAgg24
  z24 := Tryz.sizeOf24
  v24 := Tryz.zeroValue24
  i9 := by kernel_rfl }
end Go.Proofs

namespace Go.Proofs.YtpcbhjejpebogaaGreatDoor
open Go.RowKit
set_option linter.unusedVariables false

theorem heap_setCells (b : Nat) : ∀ (vs : List Value) (o : Nat) (w : World) (cur : Array Value) (e : TypeId), w.heap[b]? = some (.cells cur e (0, 0)) → ∃ cur', (w.setCells b o vs).heap[b]? = some (.cells cur' e (0, 0)) ∧ cur'.size = cur.size
  | [], o, w, cur, e, h => ⟨cur, h, rfl⟩
  | v :: r, o, w, cur, e, h => by
    have h1 : (w.setCell ⟨b, o, none⟩ v).heap[b]? = some (.cells (cur.setIfInBounds o v) e (0, 0)) := by
      have hlt : b < w.heap.size := (Array.getElem?_eq_some_iff.1 h).1
      simp [World.setCell, Array.getElem?_modify, h]
    obtain ⟨cur', h2, h3⟩ := heap_setCells b r (o + 1) _ _ e h1
    exact ⟨cur', h2, by rw [h3]; simp⟩
theorem heap_setCells_other (b k : Nat) (hk : k ≠ b) : ∀ (vs : List Value) (o : Nat) (w : World), (w.setCells b o vs).heap[k]? = w.heap[k]?
  | [], _, _ => rfl
  | v :: r, o, w => by rw [World.setCells, heap_setCells_other b k hk r, Below.heap_setCell _ _ _ _ hk]
theorem setCells_kept (b : Nat) : ∀ (vs : List Value) (o : Nat) (w : World), Kept (fun k => k ≠ b) w (w.setCells b o vs)
  | [], _, w => Kept.refl _ _
  | v :: r, o, w => by
    rw [World.setCells]
    have h1 : Kept (fun k => k ≠ b) w (w.setCell ⟨b, o, none⟩ v) := ⟨rfl, rfl, rfl, by simp [World.setCell], fun k _ hk => Below.heap_setCell _ _ _ _ hk⟩
    exact h1.trans (setCells_kept b r (o + 1) _)
theorem kept_drew {p : Nat → Prop} {w : World} : Kept p w w.drew := ⟨rfl, rfl, rfl, Nat.le_refl _, fun _ _ _ => rfl⟩

theorem own_of_cells {w : World} {base g cap : Nat} {cur : Array Value} {L : List (List UInt8)} (hg : w.heap[g]? = some (.cells cur 9 (0, 0))) (hs : cur.size = cap) (hl : L.length ≤ cap) (hm : cap ≤ maxLen) (hb : base ≤ g) (hc : ∀ j, j < L.length → w.cell? ⟨g, j, none⟩ = some (encStr (L.getD j []))) : OwnS w base g cap L := by
  refine ⟨by simp, Or.inr ⟨g, cap, cur, rfl, hb, hg, hl, hm, by omega, ?_⟩⟩
  apply List.ext_getElem?
  intro j
  by_cases hj : j < L.length
  · have h1 := hc j hj
    have h2 : w.cell? ⟨g, j, none⟩ = cur[j]? := by simp [World.cell?, hg]
    rw [h2] at h1
    rw [List.getElem?_take_of_lt (by omega), List.getElem?_map, Array.getElem?_toList, h1]
    simp [hj]
  · rw [List.getElem?_eq_none (by simp; omega), List.getElem?_eq_none (by simp; omega)]

/-- L with s at place k -/
def insL (L : List (List UInt8)) (k : Nat) (s : List UInt8) : List (List UInt8) := L.take k ++ [s] ++ L.drop k
theorem insL_len {L : List (List UInt8)} {k : Nat} (h : k ≤ L.length) (s : List UInt8) : (insL L k s).length = L.length + 1 := by unfold insL; simp; omega
theorem insL_lt {L : List (List UInt8)} {k j : Nat} (h : k ≤ L.length) (s : List UInt8) (hj : j < k) : (insL L k s).getD j [] = L.getD j [] := by
  unfold insL
  simp only [List.getD]
  rw [List.append_assoc, List.getElem?_append_left (by simp; omega), List.getElem?_take_of_lt hj]
theorem insL_at {L : List (List UInt8)} {k : Nat} (h : k ≤ L.length) (s : List UInt8) : (insL L k s).getD k [] = s := by
  unfold insL
  simp only [List.getD]
  rw [List.append_assoc, List.getElem?_append_right (by simp; omega)]
  simp [Nat.min_eq_left h]
theorem insL_gt {L : List (List UInt8)} {k j : Nat} (h : k ≤ L.length) (s : List UInt8) (hj : k ≤ j) : (insL L k s).getD (j + 1) [] = L.getD j [] := by
  unfold insL
  simp only [List.getD]
  rw [List.append_assoc, List.getElem?_append_right (by simp; omega), List.length_take, Nat.min_eq_left h]
  rw [show j + 1 - k = (j - k) + 1 by omega, List.singleton_append, List.getElem?_cons_succ, List.getElem?_drop]
  rw [show k + (j - k) = j by omega]

theorem enc_at (L : List (List UInt8)) (j : Nat) (v : Value) (h : (L.map encStr)[j]? = some v) : j < L.length ∧ v = encStr (L.getD j []) := by
  rw [List.getElem?_map] at h
  cases hq : L[j]? with
  | none => rw [hq] at h; cases h
  | some x =>
    rw [hq] at h
    simp only [Option.map_some, Option.some.injEq] at h
    exact ⟨(List.getElem?_eq_some_iff.1 hq).1, by rw [← h]; simp [List.getD, hq]⟩

set_option maxHeartbeats 1000000 in
theorem insert_own (base g cap : Nat) (L : List (List UInt8)) (k : Nat) (t : ByteArray) (w : World) (h : OwnS w base g cap L) (hk : k ≤ L.length) (hL : L.length ≤ 1000) :
    Calls Tryz.prog 40 #[.slice (some ⟨g, 0, none⟩) L.length cap, .int .i64 k, .slice (some ⟨w.heap.size, 0, none⟩) 1 1] (w.alloc (.cells #[.string t] 9)) fun e w' => ∃ g' cap', e = .returned (.slice (some ⟨g', 0, none⟩) (L.length + 1) cap') ∧ OwnS w' base g' cap' (insL L k t.toList) ∧ Kept (fun b => b ≠ g) w w' := by
  have hlies := h.lies
  have hcap := h.caps
  obtain ⟨cur, hg, hsz, hcm, hbase⟩ : ∃ cur, w.heap[g]? = some (.cells cur 9 (0, 0)) ∧ cur.size = cap ∧ cap ≤ maxLen ∧ base ≤ g := by
    rcases h.2 with ⟨h', _⟩ | ⟨g', cap', cur, h', hb', hg', _, hcm', hs', _⟩
    · simp at h'
    · simp only [Value.slice.injEq, Option.some.injEq, Addr.mk.injEq, and_true, true_and] at h'
      obtain ⟨rfl, rfl⟩ := h'
      exact ⟨cur, hg', by omega, hcm', hb'⟩
  obtain ⟨W, hW⟩ : ∃ W, W = w.alloc (.cells #[.string t] 9) := ⟨_, rfl⟩
  rw [← hW]
  have hWv : W.heap[w.heap.size]? = some (.cells #[.string t] 9 (0, 0)) := by rw [hW]; exact heap_alloc_new w _
  have hWg : W.heap[g]? = some (.cells cur 9 (0, 0)) := by rw [hW, Below.heap_alloc _ _ _ hlies.2.1]; exact hg
  have hWs : W.heap.size = w.heap.size + 1 := by rw [hW]; simp
  have hKW : Kept (fun b => b ≠ g) w W := by rw [hW]; exact Kept.of_below ((Below.refl _ _).alloc (Nat.le_refl _) _)
  clear hW
  have hne : w.heap.size ≠ g := by have := hlies.2.1; omega
  have hcg : ∀ j, j < cap → W.cell? ⟨g, j, none⟩ = cur[j]? := fun j hj => by simp [World.cell?, hWg]
  have hcs : ∀ j v, (L.map encStr)[j]? = some v → W.cell? ⟨g, 0 + j, none⟩ = some v := fun j v hv => by
    obtain ⟨h1, rfl⟩ := enc_at L j v hv
    have h2 := hlies.1 j h1
    rw [Nat.zero_add] at h2 ⊢
    rw [hcg j (by omega)]
    have h3 : w.cell? ⟨g, j, none⟩ = cur[j]? := by simp [World.cell?, hg]
    rw [h3] at h2
    exact h2
  have hsome : ∀ j, j < cap → (W.cell? ⟨g, 0 + j, none⟩).isSome = true := fun j hj => by
    rw [Nat.zero_add, hcg j hj, Array.getElem?_eq_getElem (by omega)]; rfl
  have hfr : ∀ b o, (b = g ∨ b = w.heap.size) → W.frozen? ⟨b, o, none⟩ = false := fun b o hb => by
    rcases hb with rfl | rfl
    · simp [World.frozen?, hWg]
    · simp [World.frozen?, hWv]
  have hvs : ∀ j v, ([Value.string t] : List Value)[j]? = some v → W.cell? ⟨w.heap.size, 0 + j, none⟩ = some v := fun j v hv => by
    rw [Nat.zero_add]
    simp only [World.cell?, hWv]
    cases j with
    | zero => simpa using hv
    | succ j => simp at hv
  have h1v : ∀ v ∈ ([Value.string t] : List Value), v.oneCell' = true := fun v hv => by simp at hv; subst hv; rfl
  have hll : (L.map encStr).length = L.length := by simp
  have hin : ∀ (gg : Nat) (w' : World), (∀ j, j < L.length → w'.cell? ⟨gg, (if j < k then j else j + 1), none⟩ = some (encStr (L.getD j []))) → w'.cell? ⟨gg, k, none⟩ = some (.string t) → ∀ j, j < (insL L k t.toList).length → w'.cell? ⟨gg, j, none⟩ = some (encStr ((insL L k t.toList).getD j [])) := fun gg w' ha hb j hj => by
    rw [insL_len hk] at hj
    rcases Nat.lt_trichotomy j k with h1 | rfl | h1
    · rw [insL_lt hk _ h1]
      have := ha j (by omega)
      rw [if_pos h1] at this
      exact this
    · rw [insL_at hk, enc_str]; exact hb
    · obtain ⟨i, rfl⟩ : ∃ i, j = i + 1 := ⟨j - 1, by omega⟩
      rw [insL_gt hk _ (by omega)]
      have := ha i (by omega)
      rw [if_neg (by omega)] at this
      exact this
  by_cases hroom : L.length + 1 ≤ cap
  · by_cases hkn : k < L.length
    · refine (Any2.slices_Insert_string_shift Tryz.insertL g 0 L.length cap k w.heap.size 0 1 1 (L.map encStr) [.string t] W hkn (by omega) hroom (by unfold maxLen at hcm; omega) hne hll rfl hcs (fun j hj => hsome j (by omega)) (fun j _ => hfr _ _ (.inl rfl)) hvs (one_enc L) h1v 9 9 1 cap (by simp [World.shape?, hWv]) (by simp [World.shape?, hWg, hsz]) (by omega) (hfr _ _ (.inr rfl)) (hfr _ _ (.inr rfl))).mono ?_
      rintro e w' ⟨rfl, rfl⟩
      refine ⟨g, cap, rfl, ?_, ?_⟩
      · obtain ⟨c1, hc1, hs1⟩ := heap_setCells g ((L.map encStr).drop k) (0 + (k + 1)) W.drew cur 9 hWg
        obtain ⟨c2, hc2, hs2⟩ := heap_setCells g [.string t] (0 + k) _ c1 9 hc1
        refine own_of_cells hc2 (by omega) (by rw [insL_len hk]; omega) hcm hbase (hin _ _ (fun j hj => ?_) ?_)
        · by_cases hjk : j < k
          · rw [if_pos hjk, World.cell?_setCells_out _ _ _ _ _ (fun _ _ => .inl (by show j < 0 + k; omega)), World.cell?_setCells_out _ _ _ _ _ (fun _ _ => .inl (by show j < 0 + (k + 1); omega))]
            have := hcs j _ (by rw [List.getElem?_map]; simp [hj]; rfl)
            rw [Nat.zero_add] at this
            simpa [List.getD, hj] using this
          · rw [if_neg hjk, World.cell?_setCells_out _ _ _ _ _ (fun _ _ => .inr (by show 0 + k + 1 ≤ j + 1; omega))]
            have h5 := World.cell?_setCells_in g ((L.map encStr).drop k) (0 + (k + 1)) W.drew (fun i hi => by
              have := hsome (k + 1 + i) (by simp at hi; omega)
              simpa [Nat.zero_add] using this) (j - k) (by simp; omega)
            rw [show 0 + (k + 1) + (j - k) = j + 1 by omega] at h5
            rw [h5]
            simp [List.getD, hj, show k + (j - k) = j by omega]
        · have h5 := World.cell?_setCells_in g [.string t] (0 + k) (W.drew.setCells g (0 + (k + 1)) ((L.map encStr).drop k)) (fun i hi => by
            simp at hi
            subst hi
            rw [World.cell?_setCells_out _ _ _ _ _ (fun _ _ => .inl (by show 0 + k + 0 < 0 + (k + 1); omega))]
            have := hsome k (by omega)
            simpa [Nat.zero_add] using this) 0 (by simp)
          simpa using h5
      · exact (hKW.trans kept_drew).trans ((setCells_kept g _ _ _).trans (setCells_kept g _ _ _))
    · obtain rfl : k = L.length := by omega
      refine (Any2.slices_Insert_string_end_room Tryz.insertL g 0 L.length cap w.heap.size 0 1 1 [.string t] W (by omega) hroom (by unfold maxLen at hcm; omega) rfl (fun j hj => by have := hsome (L.length + j) (by omega); simpa [Nat.zero_add] using this) (fun j _ => hfr _ _ (.inl rfl)) hvs h1v).mono ?_
      rintro e w' ⟨rfl, rfl⟩
      refine ⟨g, cap, rfl, ?_, hKW.trans (setCells_kept g _ _ _)⟩
      obtain ⟨c1, hc1, hs1⟩ := heap_setCells g [.string t] (0 + L.length) W cur 9 hWg
      refine own_of_cells hc1 (by omega) (by rw [insL_len hk]; omega) hcm hbase (hin _ _ (fun j hj => ?_) ?_)
      · rw [if_pos hj, World.cell?_setCells_out _ _ _ _ _ (fun _ _ => .inl (by show j < 0 + L.length; omega))]
        have := hcs j _ (by rw [List.getElem?_map]; simp [hj]; rfl)
        rw [Nat.zero_add] at this
        simpa [List.getD, hj] using this
      · have h5 := World.cell?_setCells_in g [.string t] (0 + L.length) W (fun i hi => by
          simp at hi
          subst hi
          have := hsome L.length (by omega)
          simpa [Nat.zero_add] using this) 0 (by simp)
        simpa using h5
  · have hceq : cap = L.length := by omega
    have hgeW : base ≤ W.heap.size := by have := hlies.2.1; omega
    have hgc := grownCap_ge W (L.length + 1) cap 9
    have hgm := grownCap_le_maxLen W (L.length + 1) cap 9 (by unfold maxLen; omega)
    obtain ⟨gc, hgcd⟩ : ∃ gc, gc = grownCap W (L.length + 1) cap 9 := ⟨_, rfl⟩
    by_cases hkn : k < L.length
    · refine (Any2.slices_Insert_string_grow Tryz.insertL g 0 L.length cap k w.heap.size 0 1 1 (L.map encStr) [.string t] W hkn (by omega) (by omega) (by omega) (by omega) hll rfl hcs hvs (one_enc L) h1v).mono ?_
      rintro e w' ⟨rfl, hw'⟩
      have hw2 : w' = ((((W.alloc (.cells (((L.map encStr).take k).toArray ++ Builtin.zeroCells (Value.string ⟨#[]⟩).cells (L.length + 1 - k) ++ Builtin.zeroCells (Value.string ⟨#[]⟩).cells (grownCap W (L.length + 1) cap 9 - (L.length + 1))) 9)).drew.setCells W.heap.size k [.string t]).drew).setCells W.heap.size (k + 1) ((L.map encStr).drop k)) := hw'
      rw [← hgcd] at hw2 hgc hgm
      obtain ⟨arr, harr⟩ : ∃ arr, arr = (((L.map encStr).take k).toArray ++ Builtin.zeroCells (Value.string ⟨#[]⟩).cells (L.length + 1 - k) ++ Builtin.zeroCells (Value.string ⟨#[]⟩).cells (gc - (L.length + 1))) := ⟨_, rfl⟩
      rw [← harr] at hw2
      have hasz : arr.size = gc := by
        rw [harr]
        simp [Builtin.zeroCells, Value.cells]
        omega
      have hA : (W.alloc (.cells arr 9)).heap[W.heap.size]? = some (.cells arr 9 (0, 0)) := heap_alloc_new W _
      obtain ⟨c1, hc1, hs1⟩ := heap_setCells W.heap.size [.string t] k (W.alloc (.cells arr 9)).drew arr 9 hA
      obtain ⟨c2, hc2, hs2⟩ := heap_setCells W.heap.size ((L.map encStr).drop k) (k + 1) ((W.alloc (.cells arr 9)).drew.setCells W.heap.size k [.string t]).drew c1 9 hc1
      have hat : ∀ j, j < k → arr[j]? = some (encStr (L.getD j [])) := fun j hj => by
        rw [harr, Array.append_assoc, Array.getElem?_append_left (by simp; omega)]
        simp [List.getElem?_take_of_lt hj, List.getD, show j < L.length by omega]
      have hAc : ∀ j, (W.alloc (.cells arr 9)).cell? ⟨W.heap.size, j, none⟩ = arr[j]? := fun j => by unfold World.cell?; rw [hA]; simp
      refine ⟨W.heap.size, gc, by rw [hgcd]; rfl, ?_, ?_⟩
      · rw [hw2]
        refine own_of_cells hc2 (by omega) (by rw [insL_len hk]; omega) hgm hgeW (hin _ _ (fun j hj => ?_) ?_)
        · by_cases hjk : j < k
          · rw [if_pos hjk, World.cell?_setCells_out _ _ _ _ _ (fun _ _ => .inl (by show j < k + 1; omega))]
            show ((W.alloc (.cells arr 9)).drew.setCells W.heap.size k [.string t]).cell? ⟨W.heap.size, j, none⟩ = _
            rw [World.cell?_setCells_out _ _ _ _ _ (fun _ _ => .inl (by show j < k; omega))]
            show (W.alloc (.cells arr 9)).cell? ⟨W.heap.size, j, none⟩ = _
            rw [hAc, hat j hjk]
          · rw [if_neg hjk]
            have h5 := World.cell?_setCells_in W.heap.size ((L.map encStr).drop k) (k + 1) ((W.alloc (.cells arr 9)).drew.setCells W.heap.size k [.string t]).drew (fun i hi => by
              show (((W.alloc (.cells arr 9)).drew.setCells W.heap.size k [.string t]).cell? ⟨W.heap.size, k + 1 + i, none⟩).isSome = true
              rw [World.cell?_setCells_out _ _ _ _ _ (fun _ _ => .inr (by show k + 1 ≤ k + 1 + i; omega))]
              show ((W.alloc (.cells arr 9)).cell? ⟨W.heap.size, k + 1 + i, none⟩).isSome = true
              simp at hi
              rw [hAc, Array.getElem?_eq_getElem (by omega)]; rfl) (j - k) (by simp; omega)
            rw [show k + 1 + (j - k) = j + 1 by omega] at h5
            rw [h5]
            simp [List.getD, hj, show k + (j - k) = j by omega]
        · rw [World.cell?_setCells_out _ _ _ _ _ (fun _ _ => .inl (by show k < k + 1; omega))]
          show ((W.alloc (.cells arr 9)).drew.setCells W.heap.size k [.string t]).cell? ⟨W.heap.size, k, none⟩ = _
          have h5 := World.cell?_setCells_in W.heap.size [.string t] k (W.alloc (.cells arr 9)).drew (fun i hi => by
            simp at hi
            subst hi
            show ((W.alloc (.cells arr 9)).cell? ⟨W.heap.size, k + 0, none⟩).isSome = true
            rw [hAc, Array.getElem?_eq_getElem (by omega)]; rfl) 0 (by simp)
          simpa using h5
      · have k1 : Kept (fun b => b ≠ W.heap.size) (W.alloc (.cells arr 9)) w' := by
          rw [hw2]
          exact ((Kept.trans kept_drew (setCells_kept _ _ _ _)).trans kept_drew).trans (setCells_kept _ _ _ _)
        have k0 : Kept (fun b => b ≠ g) W (W.alloc (.cells arr 9)) := Kept.of_below ((Below.refl _ _).alloc (Nat.le_refl _) _)
        have k2 := hKW.trans k0
        exact ⟨k1.os.trans k2.os, k1.tape.trans k2.tape, k1.output.trans k2.output, Nat.le_trans k2.size k1.size, fun b hb hp => (k1.block b (by have := k2.size; omega) (by omega)).trans (k2.block b hb hp)⟩
    · obtain rfl : k = L.length := by omega
      refine (Any2.slices_Insert_string_end_grow Tryz.insertL (some ⟨g, 0, none⟩) L.length cap w.heap.size 0 1 1 (L.map encStr) [.string t] W (by omega) (by omega) (by omega) (by omega) hll rfl (fun h => by cases h) (fun a ha j v hv => by
        cases ha
        rw [add_at]
        exact hcs j v hv) hvs h1v).mono ?_
      rintro e w' ⟨rfl, hw'⟩
      have hw2 : w' = W.drew.alloc (.cells (((L.map encStr) ++ [Value.string t]).toArray ++ Builtin.zeroCells (Value.string ⟨#[]⟩).cells (grownCap W (L.length + 1) cap 9 - (L.length + 1))) 9) := hw'
      rw [← hgcd] at hw2 hgc hgm
      obtain ⟨arr, harr⟩ : ∃ arr, arr = (((L.map encStr) ++ [Value.string t]).toArray ++ Builtin.zeroCells (Value.string ⟨#[]⟩).cells (gc - (L.length + 1))) := ⟨_, rfl⟩
      rw [← harr] at hw2
      have hasz : arr.size = gc := by
        rw [harr]
        simp [Builtin.zeroCells, Value.cells]
        omega
      have hA : (W.drew.alloc (.cells arr 9)).heap[W.heap.size]? = some (.cells arr 9 (0, 0)) := heap_alloc_new W.drew _
      have hAc : ∀ j, (W.drew.alloc (.cells arr 9)).cell? ⟨W.heap.size, j, none⟩ = arr[j]? := fun j => by unfold World.cell?; rw [hA]; simp
      refine ⟨W.heap.size, gc, by rw [hgcd]; rfl, ?_, ?_⟩
      · rw [hw2]
        refine own_of_cells hA hasz (by rw [insL_len hk]; omega) hgm hgeW (hin _ _ (fun j hj => ?_) ?_)
        · rw [if_pos hj, hAc, harr, Array.getElem?_append_left (by simp; omega)]
          simp [List.getElem?_append_left, hj, List.getD]
        · rw [hAc, harr, Array.getElem?_append_left (by simp)]
          simp
      · have k0 : Kept (fun b => b ≠ g) W w' := by
          rw [hw2]
          exact Kept.trans kept_drew (Kept.of_below ((Below.refl _ _).alloc (Nat.le_refl _) _))
        exact hKW.trans k0
end Go.Proofs.YtpcbhjejpebogaaGreatDoor

namespace Go.Proofs.YtpcbhjejpebogaaGreatDoor
open Go.RowKit
set_option linter.unusedVariables false

/-- the texts of S as a list -/
def LL (S : Nat → ByteArray) (n : Nat) : List (List UInt8) := (List.range n).map fun i => (S i).toList
theorem LL_len (S : Nat → ByteArray) (n : Nat) : (LL S n).length = n := by simp [LL]
theorem LL_at (S : Nat → ByteArray) {n j : Nat} (h : j < n) : (LL S n).getD j [] = (S j).toList := by simp [LL, List.getD, h]
theorem lies_of {w : World} {g off cap n : Nat} {S : Nat → ByteArray} (h : IsStrs w (some ⟨g, off, none⟩) n cap S) : Lies w g off (LL S n) := by
  intro i hi
  rw [LL_len] at hi
  obtain ⟨b, o, e, hb, hc⟩ := h.2.2 (by omega)
  simp only [Option.some.injEq, Addr.mk.injEq, and_true] at e
  obtain ⟨rfl, rfl⟩ := e
  rw [LL_at S hi, enc_str]
  exact hc i hi

/-- knownB of the texts of a list -/
def knL (L : List (List UInt8)) : Bool := knownB (atL L) L.length
/-- what is known by then; none where one of them is not right -/
def lrB (S : Nat → ByteArray) (n : Nat) (t : ByteArray) : Bool := knownB S n && knL (putL (LL S n) t.toList)
def lrR (S : Nat → ByteArray) (n : Nat) (t : ByteArray) : List (List UInt8) := if lrB S n t = true then putL (LL S n) t.toList else []

theorem putL_len (s : List UInt8) : ∀ L : List (List UInt8), (putL L s).length ≤ L.length + 1
  | [] => by simp [putL]
  | a :: L => by
    have ih := putL_len s L
    unfold putL
    repeat' split
    all_goals simp
    all_goals omega

theorem put_sizes {S : Nat → ByteArray} {n : Nat} {t : ByteArray} {B : Nat} (hS : ∀ i, i < n → (S i).size ≤ B) (ht : t.size ≤ B) : ∀ i, i < (putL (LL S n) t.toList).length → (atL (putL (LL S n) t.toList) i).size ≤ B := by
  intro i hi
  have hm : (putL (LL S n) t.toList).getD i [] ∈ putL (LL S n) t.toList := by
    simp only [List.getD, List.getElem?_eq_getElem hi, Option.getD_some]
    exact List.getElem_mem hi
  have hz : (atL (putL (LL S n) t.toList) i).size = ((putL (LL S n) t.toList).getD i []).length := by
    unfold atL tx
    show (List.toArray _).size = _
    simp
  rw [hz]
  rcases (putL_mem _ _ _).1 hm with h | h
  · obtain ⟨j, hj, e⟩ := List.mem_map.1 h
    rw [← e, ByteArray.toList_eq]
    have := hS j (List.mem_range.1 hj)
    simpa using this
  · rw [h, ByteArray.toList_eq]
    simpa using ht

set_option maxHeartbeats 1000000 in
theorem specLearned_any (g n cap : Nat) (S : Nat → ByteArray) (t : ByteArray) (w : World) (h : IsStrs w (some ⟨g, 0, none⟩) n cap S) (hg : g < w.heap.size) (hn : n ≤ 1048576) (hS : ∀ i, i < n → (S i).size ≤ 1048576) (ht : t.size ≤ 1048576) :
    Calls Tryz.prog 10 #[.slice (some ⟨g, 0, none⟩) n cap, .string t] w fun e w' => ∃ v, e = .returned (.tuple #[v, .bool (lrB S n t)]) ∧ OwnL w' w.heap.size v (lrR S n t) ∧ Below w.heap.size w w' := by
  have hlen := LL_len S n
  have HP : Hid (Calls Tryz.prog 41 #[.slice (some ⟨g, 0, none⟩) n cap, .string t] w fun e w' => ∃ g' gc, e = .returned (.slice (some ⟨g', 0, none⟩) (putL (LL S n) t.toList).length gc) ∧ OwnS w' w.heap.size g' gc (putL (LL S n) t.toList) ∧ Below w.heap.size w w') := by
    have := l1Put_any g 0 cap (LL S n) t w (lies_of h) hg (by rw [hlen]; exact h.1) h.2.1 (by omega)
    rw [hlen] at this
    exact this
  have HI : Hid (IsStrs w (some ⟨g, 0, none⟩) n cap S) := h
  have HS : Hid (∀ i, i < n → (S i).size ≤ 1048576) := hS
  have HZ : Hid (∀ i, i < (putL (LL S n) t.toList).length → (atL (putL (LL S n) t.toList) i).size ≤ 1048576) := put_sizes hS ht
  clear h hS hlen
  cases h1 : knownB S n with
  | false =>
    have hr : Hid (lrB S n t = false) := by show _ = _; unfold lrB; rw [h1]; rfl
    go_enter Tryz.func10, Tryz.ntmps10
    go_wp2_with (first
      | (go_at_call 41; refine HP.out.mono ?_; rintro e w1 ⟨g', gc, rfl, ho1, hB1⟩)
      | (go_at_call 13; refine (specKnown_any _ n cap S w1 (HI.out.below hB1) HS.out).mono ?_; rintro e w2 ⟨rfl, hB2⟩; rw [h1]))
    go_ret2
    refine ⟨.slice none 0 0, ret_val (by rw [hr.out]; rfl), ?_, hB1.trans (hB2.mono hB1.size)⟩
    unfold lrR
    rw [if_neg (by rw [hr.out]; decide)]
    exact World.ownsRow_nil _ _ _ _
  | true =>
    cases h2 : knL (putL (LL S n) t.toList) with
    | false =>
      have hr : Hid (lrB S n t = false) := by show _ = _; unfold lrB; rw [h2]; simp
      have h2' : knownB (atL (putL (LL S n) t.toList)) (putL (LL S n) t.toList).length = false := h2
      go_enter Tryz.func10, Tryz.ntmps10
      go_wp2_with (first
        | (go_at_call 41; refine HP.out.mono ?_; rintro e w1 ⟨g', gc, rfl, ho1, hB1⟩)
        | (go_at_call_of 13 g'; refine (specKnown_any _ _ gc _ w2 (ho1.below hB2).strs HZ.out).mono ?_; rintro e w3 ⟨rfl, hB3⟩; rw [h2'])
        | (go_at_call 13; refine (specKnown_any _ n cap S w1 (HI.out.below hB1) HS.out).mono ?_; rintro e w2 ⟨rfl, hB2⟩; rw [h1]))
      go_ret2
      have b2 := hB1.trans (hB2.mono hB1.size)
      refine ⟨.slice none 0 0, ret_val (by rw [hr.out]; rfl), ?_, b2.trans (hB3.mono b2.size)⟩
      unfold lrR
      rw [if_neg (by rw [hr.out]; decide)]
      exact World.ownsRow_nil _ _ _ _
    | true =>
      have hr : Hid (lrB S n t = true) := by show _ = _; unfold lrB; rw [h1, h2]; rfl
      have h2' : knownB (atL (putL (LL S n) t.toList)) (putL (LL S n) t.toList).length = true := h2
      go_enter Tryz.func10, Tryz.ntmps10
      go_wp2_with (first
        | (go_at_call 41; refine HP.out.mono ?_; rintro e w1 ⟨g', gc, rfl, ho1, hB1⟩)
        | (go_at_call_of 13 g'; refine (specKnown_any _ _ gc _ w2 (ho1.below hB2).strs HZ.out).mono ?_; rintro e w3 ⟨rfl, hB3⟩; rw [h2'])
        | (go_at_call 13; refine (specKnown_any _ n cap S w1 (HI.out.below hB1) HS.out).mono ?_; rintro e w2 ⟨rfl, hB2⟩; rw [h1]))
      go_ret2
      have b2 := hB1.trans (hB2.mono hB1.size)
      refine ⟨.slice (some ⟨g', 0, none⟩) (putL (LL S n) t.toList).length gc, ret_val (by rw [hr.out]; rfl), ?_, b2.trans (hB3.mono b2.size)⟩
      unfold lrR
      rw [if_pos hr.out]
      exact (ho1.below hB2).below hB3
end Go.Proofs.YtpcbhjejpebogaaGreatDoor
