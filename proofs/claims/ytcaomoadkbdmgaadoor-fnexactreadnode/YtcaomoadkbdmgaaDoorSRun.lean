/-
  The specification's reader of nodes as plain data. No condition.
-/
import Derived.Test.YtcaomoadkbdmgaaDoorRWalk
import Derived.Test.YtcaomoadkbdmgaaDoorNT2
namespace Go.Proofs.YtcaomoadkbdmgaaDoor
open Go.RowKit
set_option linter.unusedVariables false

/-- the bytes ahead of the first c, those behind it, whether there was one -/
def cutL (c : UInt8) : List UInt8 → List UInt8 × List UInt8 × Bool
  | [] => ([], [], false)
  | x :: l => if x = c then ([], l, true) else (x :: (cutL c l).1, (cutL c l).2.1, (cutL c l).2.2)
theorem cutL_yes (c : UInt8) (b : List UInt8) : ∀ a : List UInt8, c ∉ a → cutL c (a ++ c :: b) = (a, b, true)
  | [], _ => by simp [cutL]
  | x :: a, h => by
    have h1 : ¬ x = c := fun e => h (by rw [e]; exact List.mem_cons_self)
    have ih := cutL_yes c b a (fun hh => h (List.mem_cons_of_mem _ hh))
    show cutL c (x :: (a ++ c :: b)) = _
    rw [cutL, if_neg h1, ih]
theorem cutL_no (c : UInt8) : ∀ a : List UInt8, c ∉ a → cutL c a = (a, [], false)
  | [], _ => rfl
  | x :: a, h => by
    have h1 : ¬ x = c := fun e => h (by rw [e]; exact List.mem_cons_self)
    have ih := cutL_no c a (fun hh => h (List.mem_cons_of_mem _ hh))
    rw [cutL, if_neg h1, ih]
theorem cutL_len (c : UInt8) : ∀ l : List UInt8, (cutL c l).1.length ≤ l.length ∧ (cutL c l).2.1.length ≤ l.length ∧ (l ≠ [] → (cutL c l).2.1.length < l.length)
  | [] => by simp [cutL]
  | x :: l => by
    obtain ⟨h1, h2, h3⟩ := cutL_len c l
    unfold cutL
    split
    · simp
    · simp only [List.length_cons]
      exact ⟨by omega, by omega, fun _ => by omega⟩

theorem bt_list {s : ByteArray} {i : Nat} (h : i < s.size) : ∃ x, s.data.toList[i]? = some x ∧ bt s i = (x.toNat : Int) := by
  refine ⟨s[i], ?_, (bt_in h).symm⟩
  rw [Array.getElem?_toList]
  exact Array.getElem?_eq_getElem h

/-- l1Cut's answer is cutL's -/
theorem cutV_is {s : ByteArray} {c : UInt8} {i : Nat} (h : FirstAt s (c.toNat : Int) i) : cutV s i = .tuple #[.string (bs (cutL c s.data.toList).1), .string (bs (cutL c s.data.toList).2.1), .bool (cutL c s.data.toList).2.2] := by
  obtain ⟨hle, hno, hyes⟩ := h
  have hsz : s.data.toList.length = s.size := by rw [Array.length_toList]; rfl
  have hnot : c ∉ s.data.toList.take i := by
    intro hm
    obtain ⟨j, hj, e⟩ := List.mem_iff_getElem.1 hm
    rw [List.length_take] at hj
    obtain ⟨x, hx, hb⟩ := bt_list (s := s) (i := j) (by omega)
    rw [List.getElem_take] at e
    rw [List.getElem?_eq_getElem (by omega), e] at hx
    simp at hx
    subst hx
    exact hno j (by omega) hb
  unfold cutV
  by_cases hi : i < s.size
  · rw [if_pos hi]
    obtain ⟨x, hx, hb⟩ := bt_list hi
    have hxc : x = c := by
      have := hyes hi
      rw [hb] at this
      exact UInt8.toNat_inj.1 (by omega)
    subst hxc
    have hsplit : s.data.toList = s.data.toList.take i ++ x :: s.data.toList.drop (i + 1) := by
      have hg : s.data.toList[i]'(by omega) = x := by
        rw [List.getElem?_eq_getElem (by omega)] at hx
        simpa using hx
      conv => lhs; rw [← List.take_append_drop i s.data.toList]
      rw [List.drop_eq_getElem_cons (by omega), hg]
    have hcut : cutL x s.data.toList = (s.data.toList.take i, s.data.toList.drop (i + 1), true) := by
      conv => lhs; rw [hsplit]
      exact cutL_yes x _ _ hnot
    rw [hcut]
    have e1 : s.extract 0 i = bs (s.data.toList.take i) := by
      apply ByteArray.ext
      apply Array.ext'
      simp [bs, List.extract]
    have e2 : s.extract (i + 1) s.size = bs (s.data.toList.drop (i + 1)) := by
      apply ByteArray.ext
      apply Array.ext'
      rw [ByteArray.data_extract, Array.toList_extract]
      show List.take (s.size - (i + 1)) (List.drop (i + 1) s.data.toList) = (List.drop (i + 1) s.data.toList).toArray.toList
      rw [List.take_of_length_le (by rw [List.length_drop, hsz]; omega)]
    rw [e1, e2]
  · rw [if_neg hi]
    have hie : i = s.size := by omega
    subst hie
    rw [List.take_of_length_le (by omega)] at hnot
    rw [cutL_no c _ hnot, bs_data]
    rfl

/-- a node under way -/
structure PN where
  a : Int
  s : Int
  k : Int
  key : ByteArray
  text : ByteArray
  ups : List ByteArray
def pnZ : PN := ⟨0, 0, 0, ⟨#[]⟩, ⟨#[]⟩, []⟩
def PN.S (p : PN) (i : Nat) : ByteArray := p.ups.getD i ⟨#[]⟩
def PN.ok (p : PN) : Bool := nodeB p.a p.s p.k p.key p.text p.S p.ups.length
/-- what a line does -/
def step (p : PN) (line : List UInt8) : PN :=
  let w := (cutL 32 line).1
  let t := bs (cutL 32 line).2.1
  if w = [97, 117, 116, 104, 111, 114] then { p with a := (rdec t).1 }
  else if w = [115, 101, 113] then { p with s := (rdec t).1 }
  else if w = [107, 105, 110, 100] then { p with k := (rdec t).1 }
  else if w = [107, 101, 121] then { p with key := t }
  else if w = [116, 101, 120, 116] then { p with text := t }
  else if w = [117, 112] then { p with ups := p.ups ++ [t] }
  else p
/-- all lines; none where the last one is not ended -/
def run : Nat → List UInt8 → PN → Option PN
  | 0, _, _ => none
  | f + 1, l, p => if l = [] then some p else if (cutL 10 l).2.2 = true then run f (cutL 10 l).2.1 (step p (cutL 10 l).1) else none
end Go.Proofs.YtcaomoadkbdmgaaDoor
