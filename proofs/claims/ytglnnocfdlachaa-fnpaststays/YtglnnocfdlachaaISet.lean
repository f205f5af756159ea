/-
  The keys of a set of numbers, sorted, and sets of numbers. No condition.
-/
import Derived.Test.YtglnnocfdlachaaLibI
import Derived.Test.YtglnnocfdlachaaRsA
import Derived.Maps.OwnSet
import Derived.Maps.OwnOps
import Derived.Maps.Own
import Derived.Lib.SlKeysI
namespace Go.Proofs
open Go.RowKit Go.Maps Go.Sort Go.Shelf
theorem Try.sortsI (m : Nat) : AnyZI.SortsIn Try.prog Try.sortedI_ren Fence.wide m :=
  ⟨fun blk off cap ss W hH hblk hsz => callsIn_wide.2 (AnyM.slices_Sort_int Try.sortI blk off cap ss W hH hblk hsz),
   fun p cap W => callsIn_wide.2 (AnyM.slices_Sort_int_none Try.sortI p cap W)⟩

theorem Try.maps_Keys_I (mb : Option Nat) (W : World) : Calls Try.prog 54 #[.map mb] W fun e w' => e = .returned (.func (.func 66) #[] #[.pointer (some ⟨W.heap.size, 0, none⟩)]) ∧ w' = W.alloc (.cells #[.map mb] 63) :=
  (callsIn_wide (n := 5)).1 (AnyZI.keys_in Try.keysI Fence.wide 5 trivial rfl mb W)

set_option maxHeartbeats 1000000 in
theorem Try.sorted_keys_I {H : Type} (b nn : Nat) (D0 : DataW H) (R : Value → Option (DataW H × List MemPlace)) (w : World) (hown : w.ownsMap Try.prog 2 R b nn D0) (hmax : Maps.size D0 ≤ maxLen) (hbytes : Maps.size D0 * 8 ≤ 140737488355328) :
    Calls Try.prog 53 #[.func (.func 66) #[] #[.pointer (some ⟨w.heap.size, 0, none⟩)]] (w.alloc (.cells #[.map (some b)] 63)) fun e w' => ∃ (v : Value) (ss : List Int), e = .returned v ∧ ss.Perm (intKeys D0) ∧
      w'.ownsRow (w.alloc (.cells #[.map (some b)] 63)).heap.size 2 1 v ss.length ((ss.mergeSort (fun x y => decide (x ≤ y))).map encZ) ∧ (v = .slice none 0 0 ↔ ss = []) ∧ Below (w.alloc (.cells #[.map (some b)] 63)).heap.size (w.alloc (.cells #[.map (some b)] 63)) w' := by
  refine (callsIn_wide (n := 5)).1 ?_
  have hbl := hown.lt
  have hseq : SeqGives Fence.wide 2 Try.prog 66 #[.pointer (some ⟨w.heap.size, 0, none⟩)] encZ (fun ss => ss.Perm (intKeys D0)) (Maps.size D0) (w.alloc (.cells #[.map (some b)] 63)) :=
    AnyZI.keys_gives (ρ := Try.keysI_ren) { Try.keysI with } Fence.wide _ trivial rfl (by omega) w.heap.size b nn D0 _ (by simp) (by simp) (by
      obtain ⟨es, clock, hb, Ft, hs, hD⟩ := hown
      exact ⟨es, clock, (Below.heap_alloc _ _ b hbl).trans hb, Ft, hs, hD⟩)
  exact AnyZI.sorted_in Try.sortedI Fence.wide 5 trivial trivial trivial trivial rfl (by omega) (Try.sortsI _) (enters_of Try.func65 (by kernel_rfl) rfl) 66 #[.pointer (some ⟨w.heap.size, 0, none⟩)] trivial (enters_of Try.func66 (by kernel_rfl) rfl) _ _ hmax hbytes _ hseq
end Go.Proofs
namespace Go.Proofs.Ytglnnocfdlachaa
open Go.RowKit Go.Maps
set_option linter.unusedVariables false

/-- numbers that rise -/
def UpI (l : List Int) : Prop := l.Pairwise fun x y => x < y
theorem UpI.nodup {l : List Int} (h : UpI l) : l.Nodup := List.Pairwise.imp (fun {x y} hxy e => by subst e; omega) h
theorem upI_unique {l l' : List Int} (h : UpI l) (h' : UpI l') (hm : ∀ x, x ∈ l ↔ x ∈ l') : l = l' :=
  List.Perm.eq_of_pairwise (le := fun a b => a < b) (fun a b _ _ h1 h2 => by omega) h h' ((List.perm_ext_iff_of_nodup h.nodup h'.nodup).2 hm)
theorem sortI_up {ss : List Int} (hn : ss.Nodup) : UpI (ss.mergeSort (fun x y => decide (x ≤ y))) := by
  have tr : ∀ a b c : Int, decide (a ≤ b) = true → decide (b ≤ c) = true → decide (a ≤ c) = true := fun a b c h1 h2 => by simp only [decide_eq_true_eq] at *; omega
  have hto : ∀ a b : Int, (decide (a ≤ b) || decide (b ≤ a)) = true := fun a b => by simp only [Bool.or_eq_true, decide_eq_true_eq]; omega
  have p := List.pairwise_mergeSort tr hto ss
  have nd : (ss.mergeSort (fun x y => decide (x ≤ y))).Nodup := (List.mergeSort_perm ss _).nodup_iff.2 hn
  refine (p.and nd).imp fun {x y} hxy => ?_
  obtain ⟨h1, h2⟩ := hxy
  simp only [decide_eq_true_eq] at h1
  omega

theorem lawI : Keyed Try.prog 2 := int_keyed Try.underlying2
theorem zeroU (w : World) : (zeroValue 90).run Try.prog w = .ok (.agg #[]) w := by kernel_rfl

theorem intKeys_spec {H : Type} {R : Value → Option (DataW H × List MemPlace)} {w : World} {b n : Nat} {D0 : DataW H} (hown : w.ownsMap Try.prog 2 R b n D0) :
    (intKeys D0).Nodup ∧ ∀ x, x ∈ intKeys D0 ↔ has D0 (.int .i64 x) = true := by
  obtain ⟨es, hD, hpw, _⟩ := hown.entries lawI
  obtain ⟨es', hD', hko⟩ := hown.keysOf
  obtain rfl : es = es' := by rw [hD] at hD'; simpa using hD'
  subst hD
  have hks : ∀ p ∈ es, ∃ x, p.1 = .int .i64 x := fun p hp => by
    obtain ⟨v, hv⟩ := hko p hp
    cases v <;> simp [keyOf, mapKey, Try.underlying2] at hv
    exact ⟨_, hv.2.symm⟩
  refine ⟨?_, fun x => ?_⟩
  · show (es.map fun p => Go.intOf p.1).Nodup
    refine List.pairwise_map.2 (hpw.imp_of_mem fun {p q} hp' hq' hne e => hne ?_)
    obtain ⟨a, ha⟩ := hks p hp'
    obtain ⟨b, hb⟩ := hks q hq'
    rw [ha, hb] at e ⊢
    exact congrArg _ e
  · rw [has_eq, List.any_eq_true]
    show x ∈ es.map (fun p => Go.intOf p.1) ↔ _
    rw [List.mem_map]
    constructor
    · rintro ⟨p, hp', rfl⟩
      obtain ⟨a, ha⟩ := hks p hp'
      exact ⟨p, hp', by rw [ha]; simp [Lit.sameKey, Go.intOf]⟩
    · rintro ⟨p, hp', hs⟩
      obtain ⟨a, ha⟩ := hks p hp'
      rw [ha] at hs
      exact ⟨p, hp', by rw [ha]; simpa [Lit.sameKey, Go.intOf] using hs⟩

theorem sortedI {H : Type} (b nn : Nat) (D0 : DataW H) (R : Value → Option (DataW H × List MemPlace)) (w : World) (hown : w.ownsMap Try.prog 2 R b nn D0) (hn : nn ≤ 1000000) :
    Calls Try.prog 53 #[.func (.func 66) #[] #[.pointer (some ⟨w.heap.size, 0, none⟩)]] (w.alloc (.cells #[.map (some b)] 63)) fun e w' => ∃ (v : Value) (L : List Int), e = .returned v ∧ UpI L ∧ (∀ x, x ∈ L ↔ has D0 (.int .i64 x) = true) ∧ OwnI w' w.heap.size v L ∧ Below w.heap.size w w' := by
  have hs := hown.size_le
  obtain ⟨hnd, hmem⟩ := intKeys_spec hown
  refine (Try.sorted_keys_I b nn D0 R w hown (by unfold maxLen; omega) (by omega)).mono ?_
  rintro e w' ⟨v, ss, rfl, hp, ho, _, hB⟩
  have hss : (ss.mergeSort (fun x y => decide (x ≤ y))).length = ss.length := List.length_mergeSort ss
  refine ⟨v, ss.mergeSort (fun x y => decide (x ≤ y)), rfl, sortI_up (hp.nodup_iff.2 hnd), fun x => ?_, ?_, ((Below.refl _ w).alloc (Nat.le_refl _) _).trans (hB.mono (by simp))⟩
  · rw [(List.mergeSort_perm ss _).mem_iff, hp.mem_iff]
    exact hmem x
  · unfold OwnI
    rw [hss]
    exact World.ownsRow.mono ho (by simp)

/-- block B is a set of at most n numbers that reads as E -/
def SetI (w : World) (B n : Nat) (E : DataW Value) : Prop := w.ownsMap Try.prog 2 unitElem B n E
theorem SetI.kept {w w' : World} {B n : Nat} {E : DataW Value} (h : SetI w B n E) (he : w'.heap[B]? = w.heap[B]?) : SetI w' B n E := by
  obtain ⟨es, clock, hb, F, hs, hD⟩ := h
  exact ⟨es, clock, he.trans hb, F, hs, hD⟩
theorem SetI.below {w w' : World} {B n : Nat} {E : DataW Value} (h : SetI w B n E) (hB : Below w.heap.size w w') : SetI w' B n E := h.kept (hB.block _ (World.ownsMap.lt h))
def putI (E : DataW Value) (z : Int) : DataW Value := E.put (.int .i64 z) (.agg [])
theorem putI_has {E : DataW Value} (hE : IsMap E) (z x : Int) : has (putI E z) (.int .i64 x) = true ↔ has E (.int .i64 x) = true ∨ z = x := by
  unfold putI
  by_cases he : z = x
  · subst he
    rw [has_put_same hE (show WideAt.IsKeyLit (.int .i64 z) from trivial)]
    simp
  · rw [has_put_other (k := .int .i64 z) (by intro h; apply he; simpa using h.symm)]
    simp [he]

set_option maxHeartbeats 400000 in
theorem putI_any (B n : Nat) (E : DataW Value) (z : Int) (w : World) (h : SetI w B n E) (hn : n ≤ 1000000) (hz : (Lit.int .i64 z).wf = true) :
    Calls Try.prog 48 #[.map (some B), .int .i64 z] w fun e w' => e = .returned (.tuple #[]) ∧ SetI w' B (n + 1) (putI E z) ∧ w.grownBy w' (some B) := by
  have HO : Hid (w.ownsMap Try.prog 2 unitElem B n E) := h
  have hkey : keyOf Try.prog 2 (.int .i64 z) = some (.int .i64 z) := keyOf_int_mk Try.underlying2 hz
  clear h
  go_enter Try.func48, Try.ntmps48
  go_wp2_with (at_mapUpdate; refine wpList_mapUpdate_own _ rfl _ _ _ 63 rfl 2 90 lawI Try.underlying63 unitElem B n E rfl HO.out (by unfold maxLen; omega) _ _ _ rfl rfl hkey (.agg []) [] unitElem_mk ?_; intro w3 hown3 hgrow3)
  go_end0
  exact ⟨rfl, hown3, hgrow3⟩

set_option maxHeartbeats 400000 in
theorem risingI_any (B n : Nat) (E : DataW Value) (w : World) (h : SetI w B n E) (hn : n ≤ 1000000) :
    Calls Try.prog 36 #[.map (some B)] w fun e w' => ∃ (v : Value) (L : List Int), e = .returned v ∧ UpI L ∧ (∀ x, x ∈ L ↔ has E (.int .i64 x) = true) ∧ OwnI w' w.heap.size v L ∧ Below w.heap.size w w' := by
  have HO : Hid (w.ownsMap Try.prog 2 unitElem B n E) := h
  clear h
  go_enter Try.func36, Try.ntmps36
  go_wp2_with (first
    | (go_at_call 54; refine (Try.maps_Keys_I _ _).mono ?_; rintro e w' ⟨rfl, hw'⟩; rw [hw']; clear hw' w')
    | (go_at_call 53; refine (sortedI B n E unitElem _ HO.out hn).mono ?_; rintro e w4 ⟨v, L, rfl, hU, hM, hO4, hB4⟩))
  go_ret
  exact ⟨v, L, rfl, hU, hM, hO4, hB4⟩
end Go.Proofs.Ytglnnocfdlachaa
