/-
  slices.Sorted over maps.Keys at a shelf: the names of its files, rising. No condition but that it is not great.
-/
import Derived.Test.YtbohaefmokbgbaaLibS
import Derived.Test.YtbohaefmokbgbaaDkH
import Derived.Sort.KeysCollected
import Derived.Maps.OwnSet
namespace Go.Proofs
open Go.RowKit Go.Maps Go.Sort Go.Shelf
theorem Try.sortsS (m : Nat) : AnyZ.SortsIn Try.prog Try.sortedS_ren Fence.wide m :=
  ⟨fun blk off cap ss W hH hblk hsz => callsIn_wide.2 (AnyM.slices_Sort_string Try.sortS blk off cap ss W hH hblk hsz),
   fun p cap W => callsIn_wide.2 (AnyM.slices_Sort_string_none Try.sortS p cap W)⟩

theorem Try.maps_Keys_S (mb : Option Nat) (W : World) : Calls Try.prog 77 #[.map mb] W fun e w' => e = .returned (.func (.func 93) #[] #[.pointer (some ⟨W.heap.size, 0, none⟩)]) ∧ w' = W.alloc (.cells #[.map mb] 74) :=
  (callsIn_wide (n := 5)).1 (AnyZ.keys_in Try.keysS Fence.wide 5 trivial rfl mb W)

set_option maxHeartbeats 1000000 in
theorem Try.sorted_keys_S {H : Type} (b nn : Nat) (D0 : DataW H) (R : Value → Option (DataW H × List MemPlace)) (w : World) (hown : w.ownsMap Try.prog 9 R b nn D0) (hmax : Maps.size D0 ≤ maxLen) (hbytes : Maps.size D0 * 16 ≤ 140737488355328) :
    Calls Try.prog 76 #[.func (.func 93) #[] #[.pointer (some ⟨w.heap.size, 0, none⟩)]] (w.alloc (.cells #[.map (some b)] 74)) fun e w' => ∃ (v : Value) (ss : List (List UInt8)), e = .returned v ∧ ss.Perm (strKeys D0) ∧
      w'.ownsRow (w.alloc (.cells #[.map (some b)] 74)).heap.size 9 1 v ss.length ((ss.mergeSort (fun x y => decide (x ≤ y))).map encStr) ∧ (v = .slice none 0 0 ↔ ss = []) ∧ Below (w.alloc (.cells #[.map (some b)] 74)).heap.size (w.alloc (.cells #[.map (some b)] 74)) w' := by
  refine (callsIn_wide (n := 5)).1 ?_
  have hbl := hown.lt
  have hseq : SeqGives Fence.wide 2 Try.prog 93 #[.pointer (some ⟨w.heap.size, 0, none⟩)] encStr (fun ss => ss.Perm (strKeys D0)) (Maps.size D0) (w.alloc (.cells #[.map (some b)] 74)) :=
    AnyZ.keys_gives (ρ := Try.keysS_ren) { Try.keysS with } Fence.wide _ trivial rfl (by omega) w.heap.size b nn D0 _ (by simp) (by simp) (by
      obtain ⟨es, clock, hb, Ft, hs, hD⟩ := hown
      exact ⟨es, clock, (Below.heap_alloc _ _ b hbl).trans hb, Ft, hs, hD⟩)
  exact AnyZ.sorted_in Try.sortedS Fence.wide 5 trivial trivial trivial trivial rfl (by omega) (Try.sortsS _) (enters_of Try.func92 (by kernel_rfl) rfl) 93 #[.pointer (some ⟨w.heap.size, 0, none⟩)] trivial (enters_of Try.func93 (by kernel_rfl) rfl) _ _ hmax hbytes _ hseq
end Go.Proofs
namespace Go.Proofs.Ytbohaefmokbgbaa
open Go.RowKit Go.Maps Go.Sort
set_option linter.unusedVariables false

/-- texts that rise -/
def UpT (l : List (List UInt8)) : Prop := l.Pairwise fun x y => Op.bytesLess x y = true
theorem UpT.nodup {l : List (List UInt8)} (h : UpT l) : l.Nodup := List.Pairwise.imp (fun {x y} hxy e => by subst e; rw [bl_irr] at hxy; cases hxy) h
theorem upT_unique {l l' : List (List UInt8)} (h : UpT l) (h' : UpT l') (hm : ∀ x, x ∈ l ↔ x ∈ l') : l = l' :=
  List.Perm.eq_of_pairwise (le := fun a b => Op.bytesLess a b = true) (fun a b _ _ h1 h2 => by have := bl_asym h1; rw [h2] at this; cases this) h h' ((List.perm_ext_iff_of_nodup h.nodup h'.nodup).2 hm)
theorem bl_eq : ∀ (x y : List UInt8), Op.bytesLess x y = decide (x < y)
  | [], [] => by simp [Op.bytesLess]
  | _ :: _, [] => by simp [Op.bytesLess]
  | [], _ :: _ => by simp [Op.bytesLess]
  | a :: x, b :: y => by
    rw [Op.bytesLess, bl_eq x y]
    simp only [List.cons_lt_cons_iff]
    by_cases h1 : a < b <;> by_cases h2 : a = b <;> by_cases h3 : x < y <;> simp [h1, h2, h3]
def leT (x y : List UInt8) : Bool := decide (x ≤ y)
theorem sort_upT {ss : List (List UInt8)} (hn : ss.Nodup) : UpT (ss.mergeSort (fun x y => decide (x ≤ y))) := by
  have tr : ∀ a b c : List UInt8, leT a b = true → leT b c = true → leT a c = true := fun a b c h1 h2 => by simp only [leT, decide_eq_true_eq] at *; exact List.le_trans h1 h2
  have hto : ∀ a b : List UInt8, (leT a b || leT b a) = true := fun a b => by simp only [leT, Bool.or_eq_true, decide_eq_true_eq]; exact List.le_total a b
  have p := List.pairwise_mergeSort tr hto ss
  have nd : (ss.mergeSort leT).Nodup := (List.mergeSort_perm ss leT).nodup_iff.2 hn
  refine (p.and nd).imp fun {x y} hxy => ?_
  obtain ⟨h1, h2⟩ := hxy
  have h3 : Op.bytesLess y x = false := by
    rw [bl_eq]
    simp only [leT, decide_eq_true_eq] at h1
    simpa using h1
  exact bl_tri _ _ h3 (fun e => h2 e.symm)

theorem strKeys_spec {H : Type} {P : Program} {k : TypeId} {R : Value → Option (DataW H × List MemPlace)} {w : World} {b n : Nat} {D0 : DataW H} (hown : w.ownsMap P k R b n D0) (K : Keyed P k) (hk : P.underlying k = some .string) :
    (strKeys D0).Nodup ∧ ∀ x, x ∈ strKeys D0 ↔ has D0 (.string x) = true := by
  obtain ⟨es, hD, hpw, _⟩ := hown.entries K
  obtain ⟨es', hD', hko⟩ := hown.keysOf
  obtain rfl : es = es' := by rw [hD] at hD'; simpa using hD'
  subst hD
  have hks : ∀ p ∈ es, ∃ x, p.1 = .string x := fun p hp => by obtain ⟨v, hv⟩ := hko p hp; obtain ⟨x, _, hx, _⟩ := Maps.keyOf_str hk hv; exact ⟨x, hx⟩
  refine ⟨?_, fun x => ?_⟩
  · show (es.map fun p => strOf p.1).Nodup
    refine List.pairwise_map.2 (hpw.imp_of_mem fun {p q} hp' hq' hne e => hne ?_)
    obtain ⟨a, ha⟩ := hks p hp'
    obtain ⟨b, hb⟩ := hks q hq'
    rw [ha, hb] at e ⊢
    exact congrArg _ e
  · rw [has_eq, List.any_eq_true]
    show x ∈ es.map (fun p => strOf p.1) ↔ _
    rw [List.mem_map]
    constructor
    · rintro ⟨p, hp', rfl⟩
      obtain ⟨a, ha⟩ := hks p hp'
      exact ⟨p, hp', by rw [ha]; simp [Lit.sameKey, strOf]⟩
    · rintro ⟨p, hp', hs⟩
      obtain ⟨a, ha⟩ := hks p hp'
      rw [ha] at hs
      exact ⟨p, hp', by rw [ha]; simpa [Lit.sameKey, strOf] using hs⟩

theorem tx_list (x : List UInt8) : (⟨x.toArray⟩ : ByteArray).toList = x := by rw [ByteArray.toList_eq]
theorem enc_name (s : ByteArray) : encStr s.toList = .string s := by
  show Value.string ⟨s.toList.toArray⟩ = _
  congr 1
  apply ba_ext
  rw [tx_list]
/-- the names of a shelf's files -/
theorem names_is {w : World} {base B c : Nat} {L : List Fl} {D : DataW Value} {p : Pi} (h : Sh w base B c L D p) {N : List (List UInt8)} (hN : UpT N) (hm : ∀ x, x ∈ N ↔ has D (.string x) = true) : N = L.map (fun f => f.n.toList) := by
  refine upT_unique hN (List.pairwise_map.2 h.up) fun x => ?_
  have e : (Lit.string x) = keyL ⟨x.toArray⟩ := by unfold keyL; simp
  rw [hm, e, h.hask, List.mem_map]
  constructor
  · intro hs
    cases hg : getF L ⟨x.toArray⟩ with
    | none => rw [hg] at hs; cases hs
    | some d =>
      unfold getF at hg
      cases hq : L.find? (fun f => f.n.toList == (⟨x.toArray⟩ : ByteArray).toList) with
      | none => rw [hq] at hg; cases hg
      | some f =>
        have h1 := List.find?_some hq
        exact ⟨f, List.mem_of_find?_eq_some hq, (eq_of_beq h1).trans (tx_list x)⟩
  · rintro ⟨f, hf, rfl⟩
    rw [getF_congr L (show (⟨f.n.toList.toArray⟩ : ByteArray).toList = f.n.toList from tx_list _), getF_some h.up hf]
    rfl

theorem sortedS {base B c : Nat} {L : List Fl} {D : DataW Value} {p : Pi} {w : World} (h : Sh w base B c L D p) (hc : c ≤ 1000000) :
    Calls Try.prog 76 #[.func (.func 93) #[] #[.pointer (some ⟨w.heap.size, 0, none⟩)]] (w.alloc (.cells #[.map (some B)] 74)) fun e w' => ∃ v, e = .returned v ∧ OwnS w' w.heap.size v (L.map (·.n)) ∧ Below w.heap.size w w' := by
  have hs := h.own.size_le
  obtain ⟨hnd, hmem⟩ := strKeys_spec h.own lawS Try.underlying9
  refine (Try.sorted_keys_S B c D PR w h.own (by unfold maxLen; omega) (by omega)).mono ?_
  rintro e w' ⟨v, ss, rfl, hp, ho, _, hB⟩
  have hss : (ss.mergeSort (fun x y => decide (x ≤ y))).length = ss.length := List.length_mergeSort ss
  have hN := names_is h (sort_upT (hp.nodup_iff.2 hnd)) (fun x => by
    rw [(List.mergeSort_perm ss _).mem_iff, hp.mem_iff]
    exact hmem x)
  refine ⟨v, rfl, ?_, ((Below.refl _ w).alloc (Nat.le_refl _) _).trans (hB.mono (by simp))⟩
  have ho2 := ownsRow_base ho (show w.heap.size ≤ _ by simp)
  rw [← hss, hN] at ho2
  unfold OwnS
  have e1 : (L.map (fun f => f.n.toList)).map encStr = (L.map (·.n)).map Value.string := by
    rw [List.map_map, List.map_map]
    exact List.map_congr_left fun f _ => enc_name f.n
  rw [e1, List.length_map] at ho2
  rw [List.length_map]
  exact ho2
end Go.Proofs.Ytbohaefmokbgbaa
