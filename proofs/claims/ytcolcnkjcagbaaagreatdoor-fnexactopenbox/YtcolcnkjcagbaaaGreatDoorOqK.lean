/-
  Sets of texts as maps, their keys sorted, at this program. No condition but that the map is not great.
-/
import Derived.Test.YtcolcnkjcagbaaaGreatDoorLPut
import Derived.Test.YtcolcnkjcagbaaaGreatDoorShelfI
import Derived.Sort.KeysCollected
import Derived.Maps.OwnSet
import Derived.Maps.OwnOps
import Derived.Maps.Own
import Derived.Lib.SlKeysI
namespace Go.Proofs
open Go.RowKit Go.Maps Go.Sort Go.Shelf
end Go.Proofs
namespace Go.Proofs.YtcolcnkjcagbaaaGreatDoor
open Go.RowKit Go.Maps
set_option linter.unusedVariables false

def keyL (s : ByteArray) : Lit := .string s.data.toList
theorem keyL_is (s : ByteArray) : WideAt.IsKeyLit (keyL s) := trivial
theorem keyL_inj {s t : ByteArray} (h : keyL s = keyL t) : s.toList = t.toList := by
  unfold keyL at h
  rw [ByteArray.toList_eq, ByteArray.toList_eq]
  simpa using h
theorem keyL_eq {s t : ByteArray} (h : s.toList = t.toList) : keyL s = keyL t := by
  unfold keyL
  rw [← ByteArray.toList_eq, ← ByteArray.toList_eq, h]

theorem lawS : Keyed Tryz.prog 9 := string_keyed Tryz.underlying9
theorem keyS {s : ByteArray} (h : s.size ≤ 9223372036854775807) : keyOf Tryz.prog 9 (.string s) = some (keyL s) := WideMaps.keyOf_string_mk Tryz.underlying9 h

theorem keyS_inv (key : Value) (kl : Lit) (h : keyOf Tryz.prog 9 key = some kl) : ∃ s : ByteArray, key = .string s := by
  cases key <;> simp [keyOf, Tryz.underlying9, mapKey] at h
  exact ⟨_, rfl⟩
theorem keyS_lit {s : ByteArray} {kl : Lit} (h : keyOf Tryz.prog 9 (.string s) = some kl) : kl = keyL s := by
  simp [keyOf, Tryz.underlying9, mapKey] at h
  exact h.2.symm

theorem bl_eq : ∀ (x y : List UInt8), Op.bytesLess x y = decide (x < y)
  | [], [] => by simp [Op.bytesLess]
  | _ :: _, [] => by simp [Op.bytesLess]
  | [], _ :: _ => by simp [Op.bytesLess]
  | a :: x, b :: y => by
    rw [Op.bytesLess, bl_eq x y]
    simp only [List.cons_lt_cons_iff]
    by_cases h1 : a < b <;> by_cases h2 : a = b <;> by_cases h3 : x < y <;> simp [h1, h2, h3]
theorem sort_up {ss : List (List UInt8)} (hn : ss.Nodup) : Up (ss.mergeSort (fun x y => decide (x ≤ y))) := by
  have tr : ∀ a b c : List UInt8, leB a b = true → leB b c = true → leB a c = true := fun a b c h1 h2 => by simp only [leB, decide_eq_true_eq] at *; exact List.le_trans h1 h2
  have hto : ∀ a b : List UInt8, (leB a b || leB b a) = true := fun a b => by simp only [leB, Bool.or_eq_true, decide_eq_true_eq]; exact List.le_total a b
  have p := List.pairwise_mergeSort tr hto ss
  have nd : (ss.mergeSort leB).Nodup := (List.mergeSort_perm ss leB).nodup_iff.2 hn
  refine (p.and nd).imp fun {x y} hxy => ?_
  obtain ⟨h1, h2⟩ := hxy
  have h3 : Op.bytesLess y x = false := by
    rw [bl_eq]
    simp only [leB, decide_eq_true_eq] at h1
    simpa using h1
  exact bl_tri _ _ h3 (fun e => h2 e.symm)

theorem strKeys_spec {H : Type} {P : Program} {k : TypeId} {R : Value → Option (DataW H × List MemPlace)} {w : World} {b n : Nat} {D0 : DataW H} (hown : w.ownsMap P k R b n D0) (K : Keyed P k) (hk : P.underlying k = some .string) :
    (strKeys D0).Nodup ∧ ∀ x, x ∈ strKeys D0 ↔ has D0 (.string x) = true := by
  obtain ⟨es, hD, hpw, _⟩ := hown.entries K
  obtain ⟨es', hD', hko⟩ := hown.keysOf
  obtain rfl : es = es' := by rw [hD] at hD'; simpa using hD'
  subst hD
  have hks : ∀ p ∈ es, ∃ x, p.1 = .string x := fun p hp => by obtain ⟨v, hv⟩ := hko p hp; obtain ⟨x, _, hx, _⟩ := Maps.keyOf_str hk hv; exact ⟨x, hx⟩
  refine ⟨?_, fun x => ?_⟩
  · show (es.map fun p => strOf p.1).Nodup
    refine List.pairwise_map.2 (hpw.imp_of_mem fun {p q} hp' hq' hne e => hne ?_)
    obtain ⟨a, ha⟩ := hks p hp'
    obtain ⟨b, hb⟩ := hks q hq'
    rw [ha, hb] at e ⊢
    exact congrArg _ e
  · rw [has_eq, List.any_eq_true]
    show x ∈ es.map (fun p => strOf p.1) ↔ _
    rw [List.mem_map]
    constructor
    · rintro ⟨p, hp', rfl⟩
      obtain ⟨a, ha⟩ := hks p hp'
      exact ⟨p, hp', by rw [ha]; simp [Lit.sameKey, strOf]⟩
    · rintro ⟨p, hp', hs⟩
      obtain ⟨a, ha⟩ := hks p hp'
      rw [ha] at hs
      exact ⟨p, hp', by rw [ha]; simpa [Lit.sameKey, strOf] using hs⟩

theorem keyL_list (s : ByteArray) : keyL s = .string s.toList := by rw [keyL, ByteArray.toList_eq]
/-- block B is a set of at most n texts that reads as E -/
def SetOf (w : World) (B n : Nat) (E : DataW Value) : Prop := w.ownsMap Tryz.prog 9 unitElem B n E
theorem SetOf.below {w w' : World} {B n : Nat} {E : DataW Value} (h : SetOf w B n E) (hB : Below w.heap.size w w') : SetOf w' B n E := by
  have hl := h.lt
  obtain ⟨es, clock, hb, F, hs, hD⟩ := h
  exact ⟨es, clock, (hB.block _ hl).trans hb, F, hs, hD⟩
/-- E with the text s -/
def putE (E : DataW Value) (s : ByteArray) : DataW Value := E.put (keyL s) (.agg [])
theorem putE_has {E : DataW Value} (hE : IsMap E) (s : ByteArray) (x : List UInt8) : has (putE E s) (.string x) = true ↔ has E (.string x) = true ∨ s.toList = x := by
  unfold putE
  by_cases he : s.toList = x
  · subst he
    rw [← keyL_list, has_put_same hE (keyL_is _)]
    simp
  · rw [has_put_other (k := keyL s) (by rw [keyL_list]; intro h; apply he; simpa using h.symm)]
    simp [he]

theorem SetOf.isMap {w : World} {B n : Nat} {E : DataW Value} (h : SetOf w B n E) : IsMap E := World.ownsMap.isMap h

theorem len_le {α : Type} [DecidableEq α] : ∀ (l l' : List α), l.Nodup → (∀ x, x ∈ l → x ∈ l') → l.length ≤ l'.length
  | [], _, _, _ => Nat.zero_le _
  | a :: l, l', hn, hs => by
    obtain ⟨h1, h2⟩ := List.nodup_cons.1 hn
    have ha : a ∈ l' := hs a List.mem_cons_self
    have ih := len_le l (l'.erase a) h2 (fun x hx => (List.mem_erase_of_ne (fun e => h1 (by rw [← e]; exact hx))).2 (hs x (List.mem_cons_of_mem _ hx)))
    rw [List.length_erase_of_mem ha] at ih
    have : 0 < l'.length := List.length_pos_of_mem ha
    simp
    omega
theorem SetOf.tidy {w : World} {B n : Nat} {E : DataW Value} (h : SetOf w B n E) : Tidy E := World.ownsMap.tidy h lawS
theorem strKeys_size (E : DataW Value) (h : IsMap E) : (strKeys E).length = Maps.size E := by
  obtain ⟨es, rfl⟩ := h
  simp [strKeys, Maps.size]
theorem SetOf.tight {w : World} {B n : Nat} {E : DataW Value} (h : SetOf w B n E) {k : Nat} (hk : Maps.size E ≤ k) : SetOf w B k E := by
  obtain ⟨es, clock, hb, F, hs, hD⟩ := h
  refine ⟨es, clock, hb, F, ?_, hD⟩
  have : Maps.size E = es.size := by
    rw [hD]
    exact length_read es
  omega
theorem putE_size {w : World} {B n : Nat} {E : DataW Value} (h : SetOf w B n E) {s : ByteArray} (hs : has E (.string s.toList) = false) : Maps.size (putE E s) = Maps.size E + 1 := by
  unfold putE
  rw [size_put h.tidy, keyL_list, hs]
  rfl
theorem zeroU (w : World) : (zeroValue 196).run Tryz.prog w = .ok (.agg #[]) w := by kernel_rfl

set_option maxHeartbeats 400000 in
theorem has71_any (B n : Nat) (E : DataW Value) (s : ByteArray) (w : World) (h : SetOf w B n E) (hs : s.size ≤ 9223372036854775807) :
    Calls Tryz.prog 101 #[.map (some B), .string s] w fun e w' => e = .returned (.bool (has E (.string s.toList))) ∧ Below w.heap.size w w' := by
  have HO : Hid (w.ownsMap Tryz.prog 9 unitElem B n E) := h
  have hkey : keyOf Tryz.prog 9 (.string s) = some (keyL s) := keyS hs
  rw [← keyL_list]
  clear h
  go_enter Tryz.func101, Tryz.ntmps101
  go_wp2_with (at_lookup; refine wpList_lookup_own_unit _ rfl _ _ 131 rfl 9 196 lawS Tryz.underlying131 (zeroU _) B n E rfl HO.out _ _ rfl hkey ?_)
  go_ret
  exact ⟨rfl, (Below.refl _ _).alloc (Nat.le_refl _) _⟩
theorem grown_below {w w' : World} {row : Option Nat} (h : Below w.heap.size w w') : w.grownBy w' row := ⟨h.os, h.tape, h.output, h.size, fun k hk _ => h.block k hk⟩
theorem SetOf.kept {w w' : World} {B n : Nat} {E : DataW Value} (h : SetOf w B n E) (he : w'.heap[B]? = w.heap[B]?) : SetOf w' B n E := by
  obtain ⟨es, clock, hb, F, hs, hD⟩ := h
  exact ⟨es, clock, he.trans hb, F, hs, hD⟩

end Go.Proofs.YtcolcnkjcagbaaaGreatDoor
