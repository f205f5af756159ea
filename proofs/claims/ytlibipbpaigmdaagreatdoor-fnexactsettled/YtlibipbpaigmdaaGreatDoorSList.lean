/-
  The specification's small functions over lists of texts: l1Has, l1Put. No condition but that the slices read.
-/
import Derived.Test.YtlibipbpaigmdaaGreatDoorRise
namespace Go.Proofs.YtlibipbpaigmdaaGreatDoor
open Go.RowKit
set_option linter.unusedVariables false

set_option maxHeartbeats 400000 in
theorem l1Has_any (a : Option Addr) (len cap : Nat) (I : Nat → ByteArray) (id : ByteArray) (w : World) (h : IsStrs w a len cap I) :
    Calls Tryz.prog 86 #[.slice a len cap, .string id] w fun e w' => e = .returned (.bool (!(outB I len id))) ∧ w' = w := by
  obtain ⟨hlc, hcm, hc⟩ := h
  go_enter Tryz.func86, Tryz.ntmps86
  go_wp2
  go_loop [5] (fun i => ∃ (k : Nat), k ≤ len ∧ i = .int .i64 k ∧ Hid (outB I k id = true)) (fun i => len - (intOf i).toNat)
  case atStart => exact ⟨0, Nat.zero_le _, rfl, rfl⟩
  case round =>
    obtain ⟨k, hk, rfl, HR⟩ := hrel
    by_cases hlt : k < len
    · obtain ⟨b, off, rfl, hbs, hcell⟩ := hc (by omega)
      have d1 := hcell k hlt
      have hltI : (k : Int) < (len : Int) := by omega
      clear hcell hc
      cases hq : ((I k).toList == id.toList) with
      | true =>
        have hr : Hid (outB I len id = false) := by
          show _ = _
          unfold outB
          rw [allB_false hlt (by rw [hq]; rfl)]
        go_wp2
        go_ret
        exact ⟨ret_bool (by rw [hr.out]; rfl), rfl⟩
      | false =>
        have HR' : Hid (outB I (k + 1) id = true) := by
          show _ = _
          have := HR.out
          unfold outB at this ⊢
          rw [allB_succ, this, hq]; rfl
        go_wp2
        go_round
        case rel => exact ⟨k + 1, by omega, by go_num, HR'⟩
        case measure => simp [intOf]; omega
    · have hke : k = len := by omega
      subst hke
      go_wp2
      go_ret
      exact ⟨ret_bool (by rw [HR.out]; rfl), rfl⟩

theorem l1Has_below (a : Option Addr) (len cap : Nat) (I : Nat → ByteArray) (id : ByteArray) (w : World) (h : IsStrs w a len cap I) (b : Bool) (hb : (!(outB I len id)) = b) :
    Calls Tryz.prog 86 #[.slice a len cap, .string id] w fun e w' => e = .returned (.bool b) ∧ Below w.heap.size w w' := by
  refine (l1Has_any a len cap I id w h).mono ?_
  rintro e w' ⟨rfl, rfl⟩
  exact ⟨ret_bool hb, Below.refl _ _⟩

theorem outB_iff (I : Nat → ByteArray) (id : ByteArray) : ∀ n, outB I n id = false ↔ ∃ i, i < n ∧ (I i).toList = id.toList
  | 0 => by simp [outB, allB]
  | n + 1 => by
    rw [outB_succ, Bool.and_eq_false_iff, outB_iff I id n]
    constructor
    · rintro (⟨i, hi, e⟩ | h)
      · exact ⟨i, by omega, e⟩
      · exact ⟨n, Nat.lt_succ_self _, by simpa using h⟩
    · rintro ⟨i, hi, e⟩
      rcases Nat.lt_succ_iff_lt_or_eq.1 hi with h1 | rfl
      · exact .inl ⟨i, h1, e⟩
      · exact .inr (by simp [e])

theorem atL_list (L : List (List UInt8)) (i : Nat) : (atL L i).toList = L.getD i [] := by
  rw [ByteArray.toList_eq]
  simp [atL, tx]
theorem out_mem (L : List (List UInt8)) (id : ByteArray) : outB (atL L) L.length id = false ↔ id.toList ∈ L := by
  rw [outB_iff]
  constructor
  · rintro ⟨i, hi, e⟩
    rw [atL_list] at e
    rw [← e, List.getD_eq_getElem?_getD, List.getElem?_eq_getElem hi]
    exact List.getElem_mem hi
  · intro h
    obtain ⟨i, hi, e⟩ := List.mem_iff_getElem.1 h
    refine ⟨i, hi, ?_⟩
    rw [atL_list, List.getD_eq_getElem?_getD, List.getElem?_eq_getElem hi]
    exact e

/-- L with one text more, at its place -/
def putL : List (List UInt8) → List UInt8 → List (List UInt8)
  | [], s => [s]
  | x :: l, s => if Op.bytesLess x s = true then x :: putL l s else if x = s then x :: l else s :: x :: l
theorem putL_mem (s y : List UInt8) : ∀ L, y ∈ putL L s ↔ y ∈ L ∨ y = s
  | [] => by simp [putL]
  | x :: l => by
    unfold putL
    split
    · rw [List.mem_cons, putL_mem s y l, List.mem_cons]
      constructor
      · rintro (h | h | h)
        · exact .inl (.inl h)
        · exact .inl (.inr h)
        · exact .inr h
      · rintro ((h | h) | h)
        · exact .inl h
        · exact .inr (.inl h)
        · exact .inr (.inr h)
    · split
      · rename_i h; subst h
        simp only [List.mem_cons]
        constructor
        · exact fun h => .inl h
        · rintro (h | h)
          · exact h
          · exact .inl h
      · simp only [List.mem_cons]
        constructor
        · rintro (h | h | h)
          · exact .inr h
          · exact .inl (.inl h)
          · exact .inl (.inr h)
        · rintro ((h | h) | h)
          · exact .inr (.inl h)
          · exact .inr (.inr h)
          · exact .inl h
theorem putL_up (s : List UInt8) : ∀ L, Up L → Up (putL L s)
  | [], _ => by simp [putL, Up]
  | x :: l, h => by
    obtain ⟨h1, h2⟩ := List.pairwise_cons.1 h
    unfold putL
    split
    · rename_i hx
      refine List.pairwise_cons.2 ⟨fun y hy => ?_, putL_up s l h2⟩
      rcases (putL_mem s y l).1 hy with h' | rfl
      · exact h1 y h'
      · exact hx
    · rename_i hx
      split
      · exact h
      · rename_i hne
        have hsx : Op.bytesLess s x = true := bl_tri _ _ (by simpa using hx) hne
        refine List.pairwise_cons.2 ⟨fun y hy => ?_, h⟩
        rcases List.mem_cons.1 hy with rfl | h'
        · exact hsx
        · exact bl_trans _ _ _ hsx (h1 y h')

/-- what putL is where the first k are less and the next is not -/
theorem putL_at (s : List UInt8) : ∀ (L : List (List UInt8)) (k : Nat), k ≤ L.length → (∀ i, i < k → Op.bytesLess (L.getD i []) s = true) → (k < L.length → Op.bytesLess (L.getD k []) s = false) →
    putL L s = if k < L.length ∧ L.getD k [] = s then L else L.take k ++ [s] ++ L.drop k
  | [], k, hk, _, _ => by
    obtain rfl : k = 0 := by simpa using hk
    simp [putL]
  | x :: l, 0, _, _, h0 => by
    have hx : Op.bytesLess x s = false := h0 (Nat.zero_lt_succ _)
    unfold putL
    rw [if_neg (by rw [hx]; decide)]
    by_cases e : x = s
    · rw [if_pos e, if_pos ⟨Nat.zero_lt_succ _, e⟩]
    · rw [if_neg e, if_neg (fun h => e h.2)]
      rfl
  | x :: l, k + 1, hk, hi, h0 => by
    have hx : Op.bytesLess x s = true := hi 0 (Nat.zero_lt_succ _)
    have ih := putL_at s l k (by simpa using hk) (fun i h => by simpa using hi (i + 1) (by omega)) (fun h => by simpa using h0 (by simp; omega))
    rw [show putL (x :: l) s = x :: putL l s by rw [putL, if_pos hx], ih]
    by_cases c : k < l.length ∧ l.getD k [] = s
    · rw [if_pos c, if_pos ⟨by simp; omega, by simpa using c.2⟩]
    · rw [if_neg c, if_neg (fun h => c ⟨by have := h.1; simp at this; omega, by simpa using h.2⟩)]
      simp
end Go.Proofs.YtlibipbpaigmdaaGreatDoor
