/-
  The specification's l1Has. No condition but that the list reads.
  The specification's l2Inside: what can be taken out of a known term. No condition but that the term is right and the list reads.
  The specification's l2Inside at a pair. No condition but that the term is right and the list reads.
  The specification's Opened: the same texts, rising. No condition but that the slice reads.
  The specification's l2Opened, and Opened. No condition but that the slice reads.
-/
import Derived.Test.YtcolcnkjcagbaaaGreatDoorLPut
import Derived.Test.YtcolcnkjcagbaaaGreatDoorBuR
import Derived.Test.YtcolcnkjcagbaaaGreatDoorBuL
namespace Go.Proofs.YtcolcnkjcagbaaaGreatDoor
open Go.RowKit
set_option linter.unusedVariables false

def allB (p : Nat → Bool) (n : Nat) : Bool := (List.range n).all p
theorem allB_succ (p : Nat → Bool) (n : Nat) : allB p (n + 1) = (allB p n && p n) := by
  unfold allB
  rw [List.range_succ, List.all_append]
  simp
theorem allB_false {p : Nat → Bool} {n k : Nat} (hk : k < n) (h : p k = false) : allB p n = false := by
  have : ¬ (allB p n = true) := by
    unfold allB
    rw [List.all_eq_true]
    intro h'
    have := h' k (List.mem_range.2 hk)
    rw [h] at this
    cases this
  simpa using this
/-- a text is none of the first n -/
def outB (I : Nat → ByteArray) (n : Nat) (id : ByteArray) : Bool := allB (fun j => !((I j).toList == id.toList)) n
theorem outB_list (M : List (List UInt8)) (s : ByteArray) : (!(outB (atL M) M.length s)) = decide (s.toList ∈ M) := by
  cases h : outB (atL M) M.length s with
  | true =>
    have hn : ¬ s.toList ∈ M := fun hm => by
      obtain ⟨i, hi, e⟩ := List.mem_iff_getElem.1 hm
      have := allB_false (p := fun j => !((atL M j).toList == s.toList)) hi (by rw [atL_list, List.getD_eq_getElem?_getD, List.getElem?_eq_getElem hi]; simp [e])
      unfold outB at h
      rw [h] at this
      cases this
    rw [decide_eq_false hn]; rfl
  | false =>
    have hy : s.toList ∈ M := Classical.byContradiction fun hn => by
      have : outB (atL M) M.length s = true := by
        unfold outB allB
        rw [List.all_eq_true]
        intro j hj
        have hj := List.mem_range.1 hj
        rw [atL_list, List.getD_eq_getElem?_getD, List.getElem?_eq_getElem hj]
        have hne : ¬ (M[j] = s.toList) := fun e => hn (by rw [← e]; exact List.getElem_mem hj)
        simpa using hne
      rw [h] at this
      cases this
    rw [decide_eq_true hy]; rfl
set_option maxHeartbeats 400000 in
theorem l1Has_any (a : Option Addr) (len cap : Nat) (I : Nat → ByteArray) (id : ByteArray) (w : World) (h : IsStrs w a len cap I) :
    Calls Tryz.prog 57 #[.slice a len cap, .string id] w fun e w' => e = .returned (.bool (!(outB I len id))) ∧ w' = w := by
  obtain ⟨hlc, hcm, hc⟩ := h
  go_enter Tryz.func57, Tryz.ntmps57
  go_wp2
  go_loop [5] (fun i => ∃ (k : Nat), k ≤ len ∧ i = .int .i64 k ∧ Hid (outB I k id = true)) (fun i => len - (intOf i).toNat)
  case atStart => exact ⟨0, Nat.zero_le _, rfl, rfl⟩
  case round =>
    obtain ⟨k, hk, rfl, HR⟩ := hrel
    by_cases hlt : k < len
    · obtain ⟨b, off, rfl, hbs, hcell⟩ := hc (by omega)
      have d1 := hcell k hlt
      have hltI : (k : Int) < (len : Int) := by omega
      clear hcell hc
      cases hq : ((I k).toList == id.toList) with
      | true =>
        have hr : Hid (outB I len id = false) := by
          show _ = _
          unfold outB
          rw [allB_false hlt (by rw [hq]; rfl)]
        go_wp2
        go_ret
        exact ⟨ret_bool (by rw [hr.out]; rfl), rfl⟩
      | false =>
        have HR' : Hid (outB I (k + 1) id = true) := by
          show _ = _
          have := HR.out
          unfold outB at this ⊢
          rw [allB_succ, this, hq]; rfl
        go_wp2
        go_round
        case rel => exact ⟨k + 1, by omega, by go_num, HR'⟩
        case measure => simp [intOf]; omega
    · have hke : k = len := by omega
      subst hke
      go_wp2
      go_ret
      exact ⟨ret_bool (by rw [HR.out]; rfl), rfl⟩

theorem hasM_any (base g gc : Nat) (M : List (List UInt8)) (s : ByteArray) (w : World) (h : OwnS w base g gc M) :
    Calls Tryz.prog 57 #[.slice (some ⟨g, 0, none⟩) M.length gc, .string s] w fun e w' => e = .returned (.bool (decide (s.toList ∈ M))) ∧ w' = w := by
  rw [← outB_list]
  exact l1Has_any _ _ _ _ s w h.strs
end Go.Proofs.YtcolcnkjcagbaaaGreatDoor

namespace Go.Proofs.YtcolcnkjcagbaaaGreatDoor
open Go.RowKit Go.Maps
set_option linter.unusedVariables false

/-- what can be taken out of a term -/
def insT (M : List (List UInt8)) : Tr → List (List UInt8)
  | ⟨.inl (_, _)⟩ => []
  | ⟨.inr (.inl _)⟩ => []
  | ⟨.inr (.inr (.inl (t, u)))⟩ => [t.txt.toList, u.txt.toList]
  | ⟨.inr (.inr (.inr (k, n, t)))⟩ => if k = 7 ∨ (keyT n).txt.toList ∈ M then [t.txt.toList] else []

/-- ReadTerm at a right term's text -/
theorem readFit (t : Tr) (hf : Fit t) (w : World) :
    Calls Tryz.prog 53 #[.string t.txt] w fun e w' => ∃ a cap, e = .returned (.tuple #[.slice a t.size cap, .bool true]) ∧ IsNodes w' a t.size cap (ndK (t.flat 0)) (ndN (t.flat 0)) (ndA (t.flat 0)) (ndB (t.flat 0)) ∧ Below w.heap.size w w' := by
  have hz := Tr.txt_size t hf.1
  have h2 := hf.2.1
  refine (specRead_yes t.txt w (by omega) t.val (rT_txt hf.1 hf.2.1 hf.2.2)).mono ?_
  rintro e w' ⟨t2, a, cap, hv, _, _, _, rfl, ho, hB⟩
  obtain rfl := val_inj _ _ hv
  have hl := Tr.flat_length t 0
  refine ⟨a, cap, rfl, ?_, hB⟩
  rw [← hl] at ho ⊢
  exact own_nodes ho
theorem flat_last (t : Tr) (x : Nd) (l : List Nd) (h : t.flat 0 = l ++ [x]) (hl : l.length = t.size - 1) : ndK (t.flat 0) (t.size - 1) = x.1 ∧ ndN (t.flat 0) (t.size - 1) = x.2.1 ∧ ndA (t.flat 0) (t.size - 1) = x.2.2.1 ∧ ndB (t.flat 0) (t.size - 1) = x.2.2.2 := by
  have := nd_last (l := l) (x := x) (m := []) (i := t.size - 1) hl.symm
  rw [List.append_nil] at this
  rw [h]
  exact this

theorem own_lit1 {w w' : World} {t : ByteArray} (h : w.heap.size ≤ w'.heap.size) (u : List UInt8 := t.toList) (hu : u = t.toList := by rfl) : OwnL (w'.alloc (.cells #[.string t] 9)) w.heap.size (.slice (some ⟨w'.heap.size, 0, none⟩) 1 1) [u] := by
  subst hu
  refine ⟨rfl, .inr ⟨w'.heap.size, 1, #[.string t], rfl, h, heap_alloc_new _ _, Nat.le_refl _, by decide, rfl, ?_⟩⟩
  show [Value.string t] = [encStr t.toList]
  rw [enc_str]

set_option maxRecDepth 8000 in
set_option maxHeartbeats 4000000 in
theorem ins_leaf (k n : Nat) (hf : Fit (⟨.inl (k, n)⟩ : Tr)) (base g gc : Nat) (M : List (List UInt8)) (w : World) (hM : OwnS w base g gc M) :
    Calls Tryz.prog 73 #[.slice (some ⟨g, 0, none⟩) M.length gc, .string (⟨.inl (k, n)⟩ : Tr).txt] w fun e w' => ∃ v, e = .returned v ∧ OwnL w' w.heap.size v ([]) ∧ Below w.heap.size w w' := by
  obtain ⟨t, ht⟩ : ∃ t : Tr, t = (⟨.inl (k, n)⟩ : Tr) := ⟨_, rfl⟩
  have hR := readFit _ hf w
  have hlast := flat_last (⟨.inl (k, n)⟩ : Tr) ((k : Int), (n : Int), 0, 0) ([]) (by simp [Tr.flat]) (by simp [Tr.size])
  rw [← ht] at hR hlast hf ⊢
  have hsit := sits_nodes t
  obtain ⟨T, hT⟩ : ∃ T, T = t.txt := ⟨_, rfl⟩
  rw [← hT] at hR ⊢
  obtain ⟨z, hz⟩ : ∃ z, z = t.size := ⟨_, rfl⟩
  rw [← hz] at hR hlast
  have hz1 : 1 ≤ z := by rw [hz]; exact Tr.size_pos t
  have hz2 : z ≤ 40 := by rw [hz]; exact hf.2.1
  obtain ⟨m, hm⟩ : ∃ m, m = z - 1 := ⟨_, rfl⟩
  rw [← hm] at hlast
  have hmz : m < z := by omega
  have hmI : (z : Int) - 1 = (m : Int) := by omega
  have hmw : IntKind.i64.wrap ((z : Int) - 1) = (m : Int) := by rw [IntKind.wrap_i64]; omega
  have hmzI : (m : Int) < (z : Int) := by omega
  have hm0 : (0 : Int) ≤ (m : Int) := by omega
  have HR : Hid (Calls Tryz.prog 53 #[.string T] w fun e w' => ∃ a cap, e = .returned (.tuple #[.slice a z cap, .bool true]) ∧ IsNodes w' a z cap (ndK (t.flat 0)) (ndN (t.flat 0)) (ndA (t.flat 0)) (ndB (t.flat 0)) ∧ Below w.heap.size w w') := hR
  have HLast : Hid (ndK (t.flat 0) m = (k : Int) ∧ ndN (t.flat 0) m = (n : Int) ∧ ndA (t.flat 0) m = 0 ∧ ndB (t.flat 0) m = 0) := hlast
  have HSit : Hid (Sits (ndK (t.flat 0)) (ndN (t.flat 0)) (ndA (t.flat 0)) (ndB (t.flat 0)) t 0) := hsit
  have HTT : Hid (t = (⟨.inl (k, n)⟩ : Tr) ∧ z = t.size ∧ T = t.txt ∧ m = z - 1) := ⟨ht, hz, hT, hm⟩
  have HF : Hid (Fit t) := hf
  have HMM : Hid (OwnS w base g gc M) := hM
  have hmc := hM.caps
  obtain ⟨ml, hml⟩ : ∃ ml, ml = M.length := ⟨_, rfl⟩
  have HML : Hid (ml = M.length) := hml
  rw [← hml] at hmc ⊢
  obtain ⟨hmc1, hmc2⟩ := hmc
  clear hR hlast hsit ht hz hT hm hf hM hml
  have hk := HF.out.1
  rw [HTT.out.1] at hk
  have hk := hk.1
  have f5 : ((k : Int) == 5) = false := by simp; omega
  have f7 : ((k : Int) == 7) = false := by simp; omega
  have f6 : ((k : Int) == 6) = false := by simp; omega
  clear hk
  go_enter Tryz.func73, Tryz.ntmps73
  go_wp2_with fail
  refine HR.out.mono ?_
  rintro e w1 ⟨ra, rc, rfl, hN, hB1⟩
  have HN : Hid (IsNodes w1 ra z rc (ndK (t.flat 0)) (ndN (t.flat 0)) (ndA (t.flat 0)) (ndB (t.flat 0))) := hN
  have HB1 : Hid (Below w.heap.size w w1) := hB1
  obtain ⟨hn1, hn2, hn3⟩ := hN
  obtain ⟨b, off, hra, hbs, hcell⟩ := hn3 (by omega)
  have HRA : Hid (ra = some ⟨b, off, none⟩) := hra
  obtain ⟨c0, c1, c2, c3⟩ := hcell m hmz
  obtain ⟨l0, l1, l2, l3⟩ := HLast.out
  rw [l0] at c0; rw [l1] at c1; rw [l2] at c2; rw [l3] at c3
  clear hn3 hcell hB1 l0 l1 l2 l3
  subst hra
  go_wp2
  go_ret
  first
    | exact ⟨_, rfl, World.ownsRow_nil _ _ _ _, HB1.out.alloc HB1.out.size _⟩
    | exact ⟨_, rfl, World.ownsRow_nil _ _ _ _, HB1.out⟩

set_option maxRecDepth 8000 in
set_option maxHeartbeats 4000000 in
theorem ins_hash (u : Tr) (hf : Fit (⟨.inr (.inl u)⟩ : Tr)) (base g gc : Nat) (M : List (List UInt8)) (w : World) (hM : OwnS w base g gc M) :
    Calls Tryz.prog 73 #[.slice (some ⟨g, 0, none⟩) M.length gc, .string (⟨.inr (.inl u)⟩ : Tr).txt] w fun e w' => ∃ v, e = .returned v ∧ OwnL w' w.heap.size v ([]) ∧ Below w.heap.size w w' := by
  obtain ⟨t, ht⟩ : ∃ t : Tr, t = (⟨.inr (.inl u)⟩ : Tr) := ⟨_, rfl⟩
  have hR := readFit _ hf w
  have hlast := flat_last (⟨.inr (.inl u)⟩ : Tr) (4, 0, ((0 + u.size : Nat) : Int) - 1, 0) (u.flat 0) (by simp [Tr.flat]) (by simp [Tr.size, Tr.flat_length])
  rw [← ht] at hR hlast hf ⊢
  have hsit := sits_nodes t
  obtain ⟨T, hT⟩ : ∃ T, T = t.txt := ⟨_, rfl⟩
  rw [← hT] at hR ⊢
  obtain ⟨z, hz⟩ : ∃ z, z = t.size := ⟨_, rfl⟩
  rw [← hz] at hR hlast
  have hz1 : 1 ≤ z := by rw [hz]; exact Tr.size_pos t
  have hz2 : z ≤ 40 := by rw [hz]; exact hf.2.1
  obtain ⟨m, hm⟩ : ∃ m, m = z - 1 := ⟨_, rfl⟩
  rw [← hm] at hlast
  have hmz : m < z := by omega
  have hmI : (z : Int) - 1 = (m : Int) := by omega
  have hmw : IntKind.i64.wrap ((z : Int) - 1) = (m : Int) := by rw [IntKind.wrap_i64]; omega
  have hmzI : (m : Int) < (z : Int) := by omega
  have hm0 : (0 : Int) ≤ (m : Int) := by omega
  have HR : Hid (Calls Tryz.prog 53 #[.string T] w fun e w' => ∃ a cap, e = .returned (.tuple #[.slice a z cap, .bool true]) ∧ IsNodes w' a z cap (ndK (t.flat 0)) (ndN (t.flat 0)) (ndA (t.flat 0)) (ndB (t.flat 0)) ∧ Below w.heap.size w w') := hR
  have HLast : Hid (ndK (t.flat 0) m = 4 ∧ ndN (t.flat 0) m = 0 ∧ ndA (t.flat 0) m = ((0 + u.size : Nat) : Int) - 1 ∧ ndB (t.flat 0) m = 0) := hlast
  have HSit : Hid (Sits (ndK (t.flat 0)) (ndN (t.flat 0)) (ndA (t.flat 0)) (ndB (t.flat 0)) t 0) := hsit
  have HTT : Hid (t = (⟨.inr (.inl u)⟩ : Tr) ∧ z = t.size ∧ T = t.txt ∧ m = z - 1) := ⟨ht, hz, hT, hm⟩
  have HF : Hid (Fit t) := hf
  have HMM : Hid (OwnS w base g gc M) := hM
  have hmc := hM.caps
  obtain ⟨ml, hml⟩ : ∃ ml, ml = M.length := ⟨_, rfl⟩
  have HML : Hid (ml = M.length) := hml
  rw [← hml] at hmc ⊢
  obtain ⟨hmc1, hmc2⟩ := hmc
  clear hR hlast hsit ht hz hT hm hf hM hml
  go_enter Tryz.func73, Tryz.ntmps73
  go_wp2_with fail
  refine HR.out.mono ?_
  rintro e w1 ⟨ra, rc, rfl, hN, hB1⟩
  have HN : Hid (IsNodes w1 ra z rc (ndK (t.flat 0)) (ndN (t.flat 0)) (ndA (t.flat 0)) (ndB (t.flat 0))) := hN
  have HB1 : Hid (Below w.heap.size w w1) := hB1
  obtain ⟨hn1, hn2, hn3⟩ := hN
  obtain ⟨b, off, hra, hbs, hcell⟩ := hn3 (by omega)
  have HRA : Hid (ra = some ⟨b, off, none⟩) := hra
  obtain ⟨c0, c1, c2, c3⟩ := hcell m hmz
  obtain ⟨l0, l1, l2, l3⟩ := HLast.out
  rw [l0] at c0; rw [l1] at c1; rw [l2] at c2; rw [l3] at c3
  clear hn3 hcell hB1 l0 l1 l2 l3
  subst hra
  go_wp2
  go_ret
  first
    | exact ⟨_, rfl, World.ownsRow_nil _ _ _ _, HB1.out.alloc HB1.out.size _⟩
    | exact ⟨_, rfl, World.ownsRow_nil _ _ _ _, HB1.out⟩

set_option maxRecDepth 8000 in
set_option maxHeartbeats 4000000 in
theorem ins_sign (k n : Nat) (a : Tr) (hf : Fit (⟨.inr (.inr (.inr (k, n, a)))⟩ : Tr)) (base g gc : Nat) (M : List (List UInt8)) (w : World) (hM : OwnS w base g gc M) (hk : k = 7) :
    Calls Tryz.prog 73 #[.slice (some ⟨g, 0, none⟩) M.length gc, .string (⟨.inr (.inr (.inr (k, n, a)))⟩ : Tr).txt] w fun e w' => ∃ v, e = .returned v ∧ OwnL w' w.heap.size v ([a.txt.toList]) ∧ Below w.heap.size w w' := by
  obtain ⟨t, ht⟩ : ∃ t : Tr, t = (⟨.inr (.inr (.inr (k, n, a)))⟩ : Tr) := ⟨_, rfl⟩
  have hR := readFit _ hf w
  have hlast := flat_last (⟨.inr (.inr (.inr (k, n, a)))⟩ : Tr) ((k : Int), (n : Int), ((0 + a.size : Nat) : Int) - 1, 0) (a.flat 0) (by simp [Tr.flat]) (by simp [Tr.size, Tr.flat_length])
  rw [← ht] at hR hlast hf ⊢
  have hsit := sits_nodes t
  obtain ⟨T, hT⟩ : ∃ T, T = t.txt := ⟨_, rfl⟩
  rw [← hT] at hR ⊢
  obtain ⟨z, hz⟩ : ∃ z, z = t.size := ⟨_, rfl⟩
  rw [← hz] at hR hlast
  have hz1 : 1 ≤ z := by rw [hz]; exact Tr.size_pos t
  have hz2 : z ≤ 40 := by rw [hz]; exact hf.2.1
  obtain ⟨m, hm⟩ : ∃ m, m = z - 1 := ⟨_, rfl⟩
  rw [← hm] at hlast
  have hmz : m < z := by omega
  have hmI : (z : Int) - 1 = (m : Int) := by omega
  have hmw : IntKind.i64.wrap ((z : Int) - 1) = (m : Int) := by rw [IntKind.wrap_i64]; omega
  have hmzI : (m : Int) < (z : Int) := by omega
  have hm0 : (0 : Int) ≤ (m : Int) := by omega
  have HR : Hid (Calls Tryz.prog 53 #[.string T] w fun e w' => ∃ a cap, e = .returned (.tuple #[.slice a z cap, .bool true]) ∧ IsNodes w' a z cap (ndK (t.flat 0)) (ndN (t.flat 0)) (ndA (t.flat 0)) (ndB (t.flat 0)) ∧ Below w.heap.size w w') := hR
  obtain ⟨pa, hpa⟩ : ∃ pa : Int, pa = ((0 + a.size : Nat) : Int) - 1 := ⟨_, rfl⟩
  rw [← hpa] at hlast
  have HPA : Hid (pa = ((0 + a.size : Nat) : Int) - 1) := hpa
  clear hpa
  have HLast : Hid (ndK (t.flat 0) m = (k : Int) ∧ ndN (t.flat 0) m = (n : Int) ∧ ndA (t.flat 0) m = pa ∧ ndB (t.flat 0) m = 0) := hlast
  have HSit : Hid (Sits (ndK (t.flat 0)) (ndN (t.flat 0)) (ndA (t.flat 0)) (ndB (t.flat 0)) t 0) := hsit
  have HTT : Hid (t = (⟨.inr (.inr (.inr (k, n, a)))⟩ : Tr) ∧ z = t.size ∧ T = t.txt ∧ m = z - 1) := ⟨ht, hz, hT, hm⟩
  have HF : Hid (Fit t) := hf
  have HMM : Hid (OwnS w base g gc M) := hM
  have hmc := hM.caps
  obtain ⟨ml, hml⟩ : ∃ ml, ml = M.length := ⟨_, rfl⟩
  have HML : Hid (ml = M.length) := hml
  rw [← hml] at hmc ⊢
  obtain ⟨hmc1, hmc2⟩ := hmc
  clear hR hlast hsit ht hz hT hm hf hM hml
  have HTA : Hid (∀ v ra rc, IsNodes v ra z rc (ndK (t.flat 0)) (ndN (t.flat 0)) (ndA (t.flat 0)) (ndB (t.flat 0)) → Calls Tryz.prog 96 #[.slice ra z rc, .int .i64 pa] v fun e w' => e = .returned (.string a.txt) ∧ Below v.heap.size v w') := fun v ra rc hv => by
    have hs := HSit.out
    have hff := HF.out.1
    rw [HTT.out.1] at hff
    have e1 := HTT.out.1
    have e2 := HTT.out.2.1
    rw [e1] at e2
    simp only [Tr.size] at e2
    have hs2 : Sits (ndK (t.flat 0)) (ndN (t.flat 0)) (ndA (t.flat 0)) (ndB (t.flat 0)) a 0 := by
      have h3 : ∀ (Kd N A B : Nat → Int), Sits Kd N A B t 0 → Sits Kd N A B a 0 := fun Kd N A B h => by rw [e1] at h; exact h.1
      exact h3 _ _ _ _ hs
    rw [HPA.out]
    exact text_any (by omega) a 0 hff.2.2 hs2 (by omega) v hv
  have f5 : ((k : Int) == 5) = false := by simp; omega
  have f7 : ((k : Int) == 7) = true := by simp; omega
  clear hk
  go_enter Tryz.func73, Tryz.ntmps73
  go_wp2_with fail
  refine HR.out.mono ?_
  rintro e w1 ⟨ra, rc, rfl, hN, hB1⟩
  have HN : Hid (IsNodes w1 ra z rc (ndK (t.flat 0)) (ndN (t.flat 0)) (ndA (t.flat 0)) (ndB (t.flat 0))) := hN
  have HB1 : Hid (Below w.heap.size w w1) := hB1
  obtain ⟨hn1, hn2, hn3⟩ := hN
  obtain ⟨b, off, hra, hbs, hcell⟩ := hn3 (by omega)
  have HRA : Hid (ra = some ⟨b, off, none⟩) := hra
  obtain ⟨c0, c1, c2, c3⟩ := hcell m hmz
  obtain ⟨l0, l1, l2, l3⟩ := HLast.out
  rw [l0] at c0; rw [l1] at c1; rw [l2] at c2; rw [l3] at c3
  clear hn3 hcell hB1 l0 l1 l2 l3
  subst hra
  go_wp2_with fail
  obtain ⟨w2, hw2⟩ : ∃ w2, w2 = w1.alloc (.cells #[.int .i64 k, .int .i64 n, .int .i64 pa, .int .i64 0] 158) := ⟨_, rfl⟩
  have HB2 : Hid (Below w1.heap.size w1 w2) := by show Below _ _ _; rw [hw2]; exact (Below.refl _ _).alloc (Nat.le_refl _) _
  rw [← hw2]
  clear hw2
  refine (HTA.out w2 _ _ (HN.out.below HB2.out)).mono ?_
  rintro e w3 ⟨rfl, hB3⟩
  have HB3 : Hid (Below w.heap.size w w3) := HB1.out.trans ((HB2.out.trans (hB3.mono HB2.out.size)).mono HB1.out.size)
  clear hB3
  go_wp2
  go_ret
  refine ⟨_, rfl, ?_, HB3.out.alloc HB3.out.size _⟩
  exact own_lit1 HB3.out.size

set_option maxRecDepth 8000 in
set_option maxHeartbeats 4000000 in
theorem ins_open (k n : Nat) (a : Tr) (hf : Fit (⟨.inr (.inr (.inr (k, n, a)))⟩ : Tr)) (base g gc : Nat) (M : List (List UInt8)) (w : World) (hM : OwnS w base g gc M) (hk : k = 6) (hn : n ≤ 999) (hmm : (keyT n).txt.toList ∈ M) :
    Calls Tryz.prog 73 #[.slice (some ⟨g, 0, none⟩) M.length gc, .string (⟨.inr (.inr (.inr (k, n, a)))⟩ : Tr).txt] w fun e w' => ∃ v, e = .returned v ∧ OwnL w' w.heap.size v ([a.txt.toList]) ∧ Below w.heap.size w w' := by
  obtain ⟨t, ht⟩ : ∃ t : Tr, t = (⟨.inr (.inr (.inr (k, n, a)))⟩ : Tr) := ⟨_, rfl⟩
  have hR := readFit _ hf w
  have hlast := flat_last (⟨.inr (.inr (.inr (k, n, a)))⟩ : Tr) ((k : Int), (n : Int), ((0 + a.size : Nat) : Int) - 1, 0) (a.flat 0) (by simp [Tr.flat]) (by simp [Tr.size, Tr.flat_length])
  rw [← ht] at hR hlast hf ⊢
  have hsit := sits_nodes t
  obtain ⟨T, hT⟩ : ∃ T, T = t.txt := ⟨_, rfl⟩
  rw [← hT] at hR ⊢
  obtain ⟨z, hz⟩ : ∃ z, z = t.size := ⟨_, rfl⟩
  rw [← hz] at hR hlast
  have hz1 : 1 ≤ z := by rw [hz]; exact Tr.size_pos t
  have hz2 : z ≤ 40 := by rw [hz]; exact hf.2.1
  obtain ⟨m, hm⟩ : ∃ m, m = z - 1 := ⟨_, rfl⟩
  rw [← hm] at hlast
  have hmz : m < z := by omega
  have hmI : (z : Int) - 1 = (m : Int) := by omega
  have hmw : IntKind.i64.wrap ((z : Int) - 1) = (m : Int) := by rw [IntKind.wrap_i64]; omega
  have hmzI : (m : Int) < (z : Int) := by omega
  have hm0 : (0 : Int) ≤ (m : Int) := by omega
  have HR : Hid (Calls Tryz.prog 53 #[.string T] w fun e w' => ∃ a cap, e = .returned (.tuple #[.slice a z cap, .bool true]) ∧ IsNodes w' a z cap (ndK (t.flat 0)) (ndN (t.flat 0)) (ndA (t.flat 0)) (ndB (t.flat 0)) ∧ Below w.heap.size w w') := hR
  obtain ⟨pa, hpa⟩ : ∃ pa : Int, pa = ((0 + a.size : Nat) : Int) - 1 := ⟨_, rfl⟩
  rw [← hpa] at hlast
  have HPA : Hid (pa = ((0 + a.size : Nat) : Int) - 1) := hpa
  clear hpa
  have HLast : Hid (ndK (t.flat 0) m = (k : Int) ∧ ndN (t.flat 0) m = (n : Int) ∧ ndA (t.flat 0) m = pa ∧ ndB (t.flat 0) m = 0) := hlast
  have HSit : Hid (Sits (ndK (t.flat 0)) (ndN (t.flat 0)) (ndA (t.flat 0)) (ndB (t.flat 0)) t 0) := hsit
  have HTT : Hid (t = (⟨.inr (.inr (.inr (k, n, a)))⟩ : Tr) ∧ z = t.size ∧ T = t.txt ∧ m = z - 1) := ⟨ht, hz, hT, hm⟩
  have HF : Hid (Fit t) := hf
  have HMM : Hid (OwnS w base g gc M) := hM
  have hmc := hM.caps
  obtain ⟨ml, hml⟩ : ∃ ml, ml = M.length := ⟨_, rfl⟩
  have HML : Hid (ml = M.length) := hml
  rw [← hml] at hmc ⊢
  obtain ⟨hmc1, hmc2⟩ := hmc
  clear hR hlast hsit ht hz hT hm hf hM hml
  have HTA : Hid (∀ v ra rc, IsNodes v ra z rc (ndK (t.flat 0)) (ndN (t.flat 0)) (ndA (t.flat 0)) (ndB (t.flat 0)) → Calls Tryz.prog 96 #[.slice ra z rc, .int .i64 pa] v fun e w' => e = .returned (.string a.txt) ∧ Below v.heap.size v w') := fun v ra rc hv => by
    have hs := HSit.out
    have hff := HF.out.1
    rw [HTT.out.1] at hff
    have e1 := HTT.out.1
    have e2 := HTT.out.2.1
    rw [e1] at e2
    simp only [Tr.size] at e2
    have hs2 : Sits (ndK (t.flat 0)) (ndN (t.flat 0)) (ndA (t.flat 0)) (ndB (t.flat 0)) a 0 := by
      have h3 : ∀ (Kd N A B : Nat → Int), Sits Kd N A B t 0 → Sits Kd N A B a 0 := fun Kd N A B h => by rw [e1] at h; exact h.1
      exact h3 _ _ _ _ hs
    rw [HPA.out]
    exact text_any (by omega) a 0 hff.2.2 hs2 (by omega) v hv
  have f5 : ((k : Int) == 5) = false := by simp; omega
  have f7 : ((k : Int) == 7) = false := by simp; omega
  have f6 : ((k : Int) == 6) = true := by simp; omega
  have HAD : Hid (∀ v : World, (Op.stringOp .add ⟨#[107]⟩ (decB n)).run Tryz.prog v = .ok (.string (⟨#[107]⟩ ++ decB n)) v) := fun v => add_ok (by have := decB_size n; have e : (ByteArray.mk #[107]).size = 1 := rfl; omega) v
  have HKT : Hid ((keyT n).txt = ⟨#[107]⟩ ++ decB n) := by show _ = _; rw [keyT_txt]; rfl
  have HHS : Hid (∀ v, Below w.heap.size w v → Calls Tryz.prog 57 #[.slice (some ⟨g, 0, none⟩) ml gc, .string (⟨#[107]⟩ ++ decB n)] v fun e w' => e = .returned (.bool true) ∧ w' = v) := fun v hB => by
    have h1 := hasM_any base g gc M (keyT n).txt v (HMM.out.below hB)
    rw [HKT.out, ← HML.out] at h1
    rw [decide_eq_true (by rw [← HKT.out]; exact hmm)] at h1
    exact h1
  have HNN : Hid (n ≤ 999) := hn
  clear hk hmm hn
  go_enter Tryz.func73, Tryz.ntmps73
  go_wp2_with fail
  refine HR.out.mono ?_
  rintro e w1 ⟨ra, rc, rfl, hN, hB1⟩
  have HN : Hid (IsNodes w1 ra z rc (ndK (t.flat 0)) (ndN (t.flat 0)) (ndA (t.flat 0)) (ndB (t.flat 0))) := hN
  have HB1 : Hid (Below w.heap.size w w1) := hB1
  obtain ⟨hn1, hn2, hn3⟩ := hN
  obtain ⟨b, off, hra, hbs, hcell⟩ := hn3 (by omega)
  have HRA : Hid (ra = some ⟨b, off, none⟩) := hra
  obtain ⟨c0, c1, c2, c3⟩ := hcell m hmz
  obtain ⟨l0, l1, l2, l3⟩ := HLast.out
  rw [l0] at c0; rw [l1] at c1; rw [l2] at c2; rw [l3] at c3
  clear hn3 hcell hB1 l0 l1 l2 l3
  subst hra
  go_wp2_with fail
  obtain ⟨w2, hw2⟩ : ∃ w2, w2 = w1.alloc (.cells #[.int .i64 k, .int .i64 n, .int .i64 pa, .int .i64 0] 158) := ⟨_, rfl⟩
  have HB2 : Hid (Below w1.heap.size w1 w2) := by show Below _ _ _; rw [hw2]; exact (Below.refl _ _).alloc (Nat.le_refl _) _
  have x2 : w2.cell? ⟨w1.heap.size, 2, none⟩ = some (.int .i64 pa) := by rw [hw2]; exact cellN (heap_alloc_new _ _)
  rw [← hw2]
  clear hw2
  refine (l1Dec_any n HNN.out w2).mono ?_
  rintro e w3 ⟨rfl, hB3⟩
  have HB13 : Hid (Below w1.heap.size w1 w3) := HB2.out.trans (hB3.mono HB2.out.size)
  have HB3 : Hid (Below w.heap.size w w3) := HB1.out.trans (HB13.out.mono HB1.out.size)
  have y2 : w3.cell? ⟨w1.heap.size, 2, none⟩ = some (.int .i64 pa) := (hB3.cell (p := ⟨w1.heap.size, 2, none⟩) (cell_lt x2)).trans x2
  have ad := HAD.out w3
  clear hB3 x2
  go_wp2_with fail
  refine (HHS.out w3 HB3.out).mono ?_
  rintro e w4 ⟨rfl, hw4⟩
  rw [hw4]
  clear hw4 w4
  go_wp2_with fail
  refine (HTA.out w3 _ _ (HN.out.below HB13.out)).mono ?_
  rintro e w5 ⟨rfl, hB5⟩
  have HB3 : Hid (Below w.heap.size w w5) := HB3.out.trans (hB5.mono HB3.out.size)
  clear hB5 ad y2
  go_wp2
  go_ret
  refine ⟨_, rfl, ?_, HB3.out.alloc HB3.out.size _⟩
  exact own_lit1 HB3.out.size

set_option maxRecDepth 8000 in
set_option maxHeartbeats 4000000 in
theorem ins_shut (k n : Nat) (a : Tr) (hf : Fit (⟨.inr (.inr (.inr (k, n, a)))⟩ : Tr)) (base g gc : Nat) (M : List (List UInt8)) (w : World) (hM : OwnS w base g gc M) (hk : k = 6) (hn : n ≤ 999) (hmm : ¬ (keyT n).txt.toList ∈ M) :
    Calls Tryz.prog 73 #[.slice (some ⟨g, 0, none⟩) M.length gc, .string (⟨.inr (.inr (.inr (k, n, a)))⟩ : Tr).txt] w fun e w' => ∃ v, e = .returned v ∧ OwnL w' w.heap.size v ([]) ∧ Below w.heap.size w w' := by
  obtain ⟨t, ht⟩ : ∃ t : Tr, t = (⟨.inr (.inr (.inr (k, n, a)))⟩ : Tr) := ⟨_, rfl⟩
  have hR := readFit _ hf w
  have hlast := flat_last (⟨.inr (.inr (.inr (k, n, a)))⟩ : Tr) ((k : Int), (n : Int), ((0 + a.size : Nat) : Int) - 1, 0) (a.flat 0) (by simp [Tr.flat]) (by simp [Tr.size, Tr.flat_length])
  rw [← ht] at hR hlast hf ⊢
  have hsit := sits_nodes t
  obtain ⟨T, hT⟩ : ∃ T, T = t.txt := ⟨_, rfl⟩
  rw [← hT] at hR ⊢
  obtain ⟨z, hz⟩ : ∃ z, z = t.size := ⟨_, rfl⟩
  rw [← hz] at hR hlast
  have hz1 : 1 ≤ z := by rw [hz]; exact Tr.size_pos t
  have hz2 : z ≤ 40 := by rw [hz]; exact hf.2.1
  obtain ⟨m, hm⟩ : ∃ m, m = z - 1 := ⟨_, rfl⟩
  rw [← hm] at hlast
  have hmz : m < z := by omega
  have hmI : (z : Int) - 1 = (m : Int) := by omega
  have hmw : IntKind.i64.wrap ((z : Int) - 1) = (m : Int) := by rw [IntKind.wrap_i64]; omega
  have hmzI : (m : Int) < (z : Int) := by omega
  have hm0 : (0 : Int) ≤ (m : Int) := by omega
  have HR : Hid (Calls Tryz.prog 53 #[.string T] w fun e w' => ∃ a cap, e = .returned (.tuple #[.slice a z cap, .bool true]) ∧ IsNodes w' a z cap (ndK (t.flat 0)) (ndN (t.flat 0)) (ndA (t.flat 0)) (ndB (t.flat 0)) ∧ Below w.heap.size w w') := hR
  obtain ⟨pa, hpa⟩ : ∃ pa : Int, pa = ((0 + a.size : Nat) : Int) - 1 := ⟨_, rfl⟩
  rw [← hpa] at hlast
  have HPA : Hid (pa = ((0 + a.size : Nat) : Int) - 1) := hpa
  clear hpa
  have HLast : Hid (ndK (t.flat 0) m = (k : Int) ∧ ndN (t.flat 0) m = (n : Int) ∧ ndA (t.flat 0) m = pa ∧ ndB (t.flat 0) m = 0) := hlast
  have HSit : Hid (Sits (ndK (t.flat 0)) (ndN (t.flat 0)) (ndA (t.flat 0)) (ndB (t.flat 0)) t 0) := hsit
  have HTT : Hid (t = (⟨.inr (.inr (.inr (k, n, a)))⟩ : Tr) ∧ z = t.size ∧ T = t.txt ∧ m = z - 1) := ⟨ht, hz, hT, hm⟩
  have HF : Hid (Fit t) := hf
  have HMM : Hid (OwnS w base g gc M) := hM
  have hmc := hM.caps
  obtain ⟨ml, hml⟩ : ∃ ml, ml = M.length := ⟨_, rfl⟩
  have HML : Hid (ml = M.length) := hml
  rw [← hml] at hmc ⊢
  obtain ⟨hmc1, hmc2⟩ := hmc
  clear hR hlast hsit ht hz hT hm hf hM hml
  have HTA : Hid (∀ v ra rc, IsNodes v ra z rc (ndK (t.flat 0)) (ndN (t.flat 0)) (ndA (t.flat 0)) (ndB (t.flat 0)) → Calls Tryz.prog 96 #[.slice ra z rc, .int .i64 pa] v fun e w' => e = .returned (.string a.txt) ∧ Below v.heap.size v w') := fun v ra rc hv => by
    have hs := HSit.out
    have hff := HF.out.1
    rw [HTT.out.1] at hff
    have e1 := HTT.out.1
    have e2 := HTT.out.2.1
    rw [e1] at e2
    simp only [Tr.size] at e2
    have hs2 : Sits (ndK (t.flat 0)) (ndN (t.flat 0)) (ndA (t.flat 0)) (ndB (t.flat 0)) a 0 := by
      have h3 : ∀ (Kd N A B : Nat → Int), Sits Kd N A B t 0 → Sits Kd N A B a 0 := fun Kd N A B h => by rw [e1] at h; exact h.1
      exact h3 _ _ _ _ hs
    rw [HPA.out]
    exact text_any (by omega) a 0 hff.2.2 hs2 (by omega) v hv
  have f5 : ((k : Int) == 5) = false := by simp; omega
  have f7 : ((k : Int) == 7) = false := by simp; omega
  have f6 : ((k : Int) == 6) = true := by simp; omega
  have HAD : Hid (∀ v : World, (Op.stringOp .add ⟨#[107]⟩ (decB n)).run Tryz.prog v = .ok (.string (⟨#[107]⟩ ++ decB n)) v) := fun v => add_ok (by have := decB_size n; have e : (ByteArray.mk #[107]).size = 1 := rfl; omega) v
  have HKT : Hid ((keyT n).txt = ⟨#[107]⟩ ++ decB n) := by show _ = _; rw [keyT_txt]; rfl
  have HHS : Hid (∀ v, Below w.heap.size w v → Calls Tryz.prog 57 #[.slice (some ⟨g, 0, none⟩) ml gc, .string (⟨#[107]⟩ ++ decB n)] v fun e w' => e = .returned (.bool false) ∧ w' = v) := fun v hB => by
    have h1 := hasM_any base g gc M (keyT n).txt v (HMM.out.below hB)
    rw [HKT.out, ← HML.out] at h1
    rw [decide_eq_false (by rw [← HKT.out]; exact hmm)] at h1
    exact h1
  have HNN : Hid (n ≤ 999) := hn
  clear hk hmm hn
  go_enter Tryz.func73, Tryz.ntmps73
  go_wp2_with fail
  refine HR.out.mono ?_
  rintro e w1 ⟨ra, rc, rfl, hN, hB1⟩
  have HN : Hid (IsNodes w1 ra z rc (ndK (t.flat 0)) (ndN (t.flat 0)) (ndA (t.flat 0)) (ndB (t.flat 0))) := hN
  have HB1 : Hid (Below w.heap.size w w1) := hB1
  obtain ⟨hn1, hn2, hn3⟩ := hN
  obtain ⟨b, off, hra, hbs, hcell⟩ := hn3 (by omega)
  have HRA : Hid (ra = some ⟨b, off, none⟩) := hra
  obtain ⟨c0, c1, c2, c3⟩ := hcell m hmz
  obtain ⟨l0, l1, l2, l3⟩ := HLast.out
  rw [l0] at c0; rw [l1] at c1; rw [l2] at c2; rw [l3] at c3
  clear hn3 hcell hB1 l0 l1 l2 l3
  subst hra
  go_wp2_with fail
  obtain ⟨w2, hw2⟩ : ∃ w2, w2 = w1.alloc (.cells #[.int .i64 k, .int .i64 n, .int .i64 pa, .int .i64 0] 158) := ⟨_, rfl⟩
  have HB2 : Hid (Below w1.heap.size w1 w2) := by show Below _ _ _; rw [hw2]; exact (Below.refl _ _).alloc (Nat.le_refl _) _
  have x2 : w2.cell? ⟨w1.heap.size, 2, none⟩ = some (.int .i64 pa) := by rw [hw2]; exact cellN (heap_alloc_new _ _)
  rw [← hw2]
  clear hw2
  refine (l1Dec_any n HNN.out w2).mono ?_
  rintro e w3 ⟨rfl, hB3⟩
  have HB13 : Hid (Below w1.heap.size w1 w3) := HB2.out.trans (hB3.mono HB2.out.size)
  have HB3 : Hid (Below w.heap.size w w3) := HB1.out.trans (HB13.out.mono HB1.out.size)
  have y2 : w3.cell? ⟨w1.heap.size, 2, none⟩ = some (.int .i64 pa) := (hB3.cell (p := ⟨w1.heap.size, 2, none⟩) (cell_lt x2)).trans x2
  have ad := HAD.out w3
  clear hB3 x2
  go_wp2_with fail
  refine (HHS.out w3 HB3.out).mono ?_
  rintro e w4 ⟨rfl, hw4⟩
  rw [hw4]
  clear hw4 w4
  clear ad y2
  go_wp2
  go_ret
  exact ⟨_, rfl, World.ownsRow_nil _ _ _ _, HB3.out⟩

end Go.Proofs.YtcolcnkjcagbaaaGreatDoor

namespace Go.Proofs.YtcolcnkjcagbaaaGreatDoor
open Go.RowKit Go.Maps
set_option linter.unusedVariables false

theorem wp_region_factsO {P : Program} {l : List Oper} {Q : Exit → Act → World → Prop} {id : Nat} {a0 : Act} {w0 : World} (hm : P.follows .mixedOrders = true) (hback : backB l = true) (ds : List Nat) (slot : Nat → Nat) (F : Nat → Value → World → Prop)
    (hF : ∀ j v w w', F j v w → Below w.heap.size w w' → F j v w')
    (hds : ∀ i, i < l.length → slot i ∈ ds) (hinj : ∀ i j, i < l.length → j < l.length → slot i = slot j → i = j)
    (hstep : ∀ ops, ops = l.toArray → ∀ f w i o, Below w0.heap.size w0 w → ops[i]? = some o → (∀ e ∈ o.after, Region.binds .any e = true → F e.on (f (slot e.on)) w) → wpOp P ops Q i (fun a' w' => ∃ v, a' = (canon a0 ds f).put (some (slot i)) v ∧ F i v w' ∧ Below w.heap.size w w') (canon a0 ds f) w)
    (hdone : ∀ f w, Below w0.heap.size w0 w → (∀ i, i < l.length → F i (f (slot i)) w) → Q .normal (canon a0 ds f) w) :
    (Code.region id l.toArray true).wp P Q a0 w0 := wp_region_facts hm hback ds slot F hF hds hinj (hstep _ rfl) hdone
theorem q_call2P (ev : Operand → Value) (o : Oper) (w : World) (f : FuncId) (he : ∀ args w, (callFunc f args).run Tryz.prog w = .ok (.enter f args) w) (x y : Operand) (ts : Array TypeId) (h : o.op = .call { callee := .value (.func f), args := #[x, y], argTypes := ts }) (hf : ev (.func f) = .func (.func f) #[] #[]) : (execOp ev o).run Tryz.prog w = .ok (.enter f #[ev x, ev y]) w := by
  simp [execOp, h, resolve, invoke, hf, Deferred.ofValue, he]
theorem q_moveP (ev : Operand → Value) (o : Oper) (w : World) (x : Operand) (h : o.op = .move x) : (execOp ev o).run Tryz.prog w = .ok (.value (ev x)) w := by simp [execOp, h]
theorem q_assignP (ev : Operand → Value) (o : Oper) (w : World) (x : Operand) (h : o.op = .assign x) : (execOp ev o).run Tryz.prog w = .ok (.value (ev x)) w := by simp [execOp, h]
theorem q_fieldP (ev : Operand → Value) (o : Oper) (w : World) (x : Operand) (k i : Nat) (h : o.op = .fieldAddr 158 x i) (hx : ev x = .pointer (some ⟨k, 0, none⟩)) (hi : i = 2 ∨ i = 3) : (execOp ev o).run Tryz.prog w = .ok (.value (.pointer (some ⟨k, i, none⟩))) w := by
  rcases hi with rfl | rfl <;> (simp [execOp, h, hx]; go_simp)
theorem q_loadP (ev : Operand → Value) (o : Oper) (w : World) (x : Operand) (a : Addr) (v : Value) (h : o.op = .load 2 x) (hx : ev x = .pointer (some a)) (hv : w.cell? a = some v) : (execOp ev o).run Tryz.prog w = .ok (.value v) w := by
  simp [execOp, h, hx]
  go_simp
theorem q_buildP (ev : Operand → Value) (o : Oper) (w : World) (x y : Operand) (s t : ByteArray) (h : o.op = .buildSlice 23 2 #[(0, x), (1, y)]) (hx : ev x = .string s) (hy : ev y = .string t) : (execOp ev o).run Tryz.prog w = .ok (.value (.slice (some ⟨w.heap.size, 0, none⟩) 2 2)) (w.alloc (.cells #[.string s, .string t] 9)) := by
  simp [execOp, h, hx, hy]
  go_simp
def dsP : List Nat := [23, 24, 25, 26, 27, 28, 29, 30, 31, 4]
def slotP (j : Nat) : Nat := dsP.getD j 0
theorem slotP_inj (i j : Nat) (hi : i < 10) (hj : j < 10) (q : slotP i = slotP j) : i = j := by
  have h : ∀ i : Fin 10, ∀ j : Fin 10, slotP i.val = slotP j.val → i.val = j.val := by decide
  exact h ⟨i, hi⟩ ⟨j, hj⟩ q
theorem slotP_mem (i : Nat) (hi : i < 10) : slotP i ∈ dsP := by
  have h : ∀ i : Fin 10, slotP i.val ∈ dsP := by decide
  exact h ⟨i, hi⟩
/-- a fresh list of two texts -/
def Two2 (H : Nat) (ta tb : ByteArray) (v : Value) (w : World) : Prop := ∃ p, H ≤ p ∧ v = .slice (some ⟨p, 0, none⟩) 2 2 ∧ w.heap[p]? = some (.cells #[.string ta, .string tb] 9 (0, 0))
/-- of the values of the pair's region -/
def PF (ra : Option Addr) (z rc bx : Nat) (pa pb : Int) (ta tb : ByteArray) (H : Nat) : Nat → Value → World → Prop
  | 0, v, _ => v = .slice ra z rc
  | 1, v, _ => v = .pointer (some ⟨bx, 2, none⟩)
  | 2, v, _ => v = .int .i64 pa
  | 3, v, _ => v = .string ta
  | 4, v, _ => v = .slice ra z rc
  | 5, v, _ => v = .pointer (some ⟨bx, 3, none⟩)
  | 6, v, _ => v = .int .i64 pb
  | 7, v, _ => v = .string tb
  | 8, v, w => Two2 H ta tb v w
  | 9, v, w => Two2 H ta tb v w
  | _, _, _ => True
theorem Two2.below {H : Nat} {ta tb : ByteArray} {v : Value} {w w' : World} (h : Two2 H ta tb v w) (hB : Below w.heap.size w w') : Two2 H ta tb v w' := by
  obtain ⟨p, h1, h2, h3⟩ := h
  exact ⟨p, h1, h2, (hB.block _ (lt_of_block h3)).trans h3⟩
theorem PF.below {ra : Option Addr} {z rc bx : Nat} {pa pb : Int} {ta tb : ByteArray} {H j : Nat} {v : Value} {w w' : World} (h : PF ra z rc bx pa pb ta tb H j v w) (hB : Below w.heap.size w w') : PF ra z rc bx pa pb ta tb H j v w' := by
  match j, h with
  | 0, h => exact h
  | 1, h => exact h
  | 2, h => exact h
  | 3, h => exact h
  | 4, h => exact h
  | 5, h => exact h
  | 6, h => exact h
  | 7, h => exact h
  | 8, h => exact Two2.below h hB
  | 9, h => exact Two2.below h hB
  | (n + 10), _ => trivial
theorem Two2.own {w w' : World} {H : Nat} {ta tb : ByteArray} {v : Value} (h : Two2 H ta tb v w') (hH : w.heap.size ≤ H) : OwnL w' w.heap.size v [ta.toList, tb.toList] := by
  obtain ⟨p, h1, rfl, h3⟩ := h
  refine ⟨rfl, .inr ⟨p, 2, #[.string ta, .string tb], rfl, by omega, h3, Nat.le_refl _, by decide, rfl, ?_⟩⟩
  show [Value.string ta, Value.string tb] = [encStr ta.toList, encStr tb.toList]
  rw [enc_str, enc_str]

set_option maxRecDepth 8000 in
set_option maxHeartbeats 4000000 in
theorem ins_pair (a b : Tr) (hf : Fit (⟨.inr (.inr (.inl (a, b)))⟩ : Tr)) (base g gc : Nat) (M : List (List UInt8)) (w : World) (hM : OwnS w base g gc M) :
    Calls Tryz.prog 73 #[.slice (some ⟨g, 0, none⟩) M.length gc, .string (⟨.inr (.inr (.inl (a, b)))⟩ : Tr).txt] w fun e w' => ∃ v, e = .returned v ∧ OwnL w' w.heap.size v ([a.txt.toList, b.txt.toList]) ∧ Below w.heap.size w w' := by
  obtain ⟨t, ht⟩ : ∃ t : Tr, t = (⟨.inr (.inr (.inl (a, b)))⟩ : Tr) := ⟨_, rfl⟩
  have hR := readFit _ hf w
  have hlast := flat_last (⟨.inr (.inr (.inl (a, b)))⟩ : Tr) (5, 0, ((0 + a.size : Nat) : Int) - 1, ((0 + a.size + b.size : Nat) : Int) - 1) (a.flat 0 ++ b.flat (0 + a.size)) (by simp [Tr.flat]) (by simp [Tr.size, Tr.flat_length])
  rw [← ht] at hR hlast hf ⊢
  have hsit := sits_nodes t
  obtain ⟨T, hT⟩ : ∃ T, T = t.txt := ⟨_, rfl⟩
  rw [← hT] at hR ⊢
  obtain ⟨z, hz⟩ : ∃ z, z = t.size := ⟨_, rfl⟩
  rw [← hz] at hR hlast
  have hz1 : 1 ≤ z := by rw [hz]; exact Tr.size_pos t
  have hz2 : z ≤ 40 := by rw [hz]; exact hf.2.1
  obtain ⟨m, hm⟩ : ∃ m, m = z - 1 := ⟨_, rfl⟩
  rw [← hm] at hlast
  have hmz : m < z := by omega
  have hmI : (z : Int) - 1 = (m : Int) := by omega
  have hmw : IntKind.i64.wrap ((z : Int) - 1) = (m : Int) := by rw [IntKind.wrap_i64]; omega
  have hmzI : (m : Int) < (z : Int) := by omega
  have hm0 : (0 : Int) ≤ (m : Int) := by omega
  have HR : Hid (Calls Tryz.prog 53 #[.string T] w fun e w' => ∃ a cap, e = .returned (.tuple #[.slice a z cap, .bool true]) ∧ IsNodes w' a z cap (ndK (t.flat 0)) (ndN (t.flat 0)) (ndA (t.flat 0)) (ndB (t.flat 0)) ∧ Below w.heap.size w w') := hR
  obtain ⟨pa, hpa⟩ : ∃ pa : Int, pa = ((0 + a.size : Nat) : Int) - 1 := ⟨_, rfl⟩
  rw [← hpa] at hlast
  have HPA : Hid (pa = ((0 + a.size : Nat) : Int) - 1) := hpa
  clear hpa
  obtain ⟨pb, hpb⟩ : ∃ pb : Int, pb = ((0 + a.size + b.size : Nat) : Int) - 1 := ⟨_, rfl⟩
  rw [← hpb] at hlast
  have HPB : Hid (pb = ((0 + a.size + b.size : Nat) : Int) - 1) := hpb
  clear hpb
  have HLast : Hid (ndK (t.flat 0) m = 5 ∧ ndN (t.flat 0) m = 0 ∧ ndA (t.flat 0) m = pa ∧ ndB (t.flat 0) m = pb) := hlast
  have HSit : Hid (Sits (ndK (t.flat 0)) (ndN (t.flat 0)) (ndA (t.flat 0)) (ndB (t.flat 0)) t 0) := hsit
  have HTT : Hid (t = (⟨.inr (.inr (.inl (a, b)))⟩ : Tr) ∧ z = t.size ∧ T = t.txt ∧ m = z - 1) := ⟨ht, hz, hT, hm⟩
  have HF : Hid (Fit t) := hf
  have HMM : Hid (OwnS w base g gc M) := hM
  have hmc := hM.caps
  obtain ⟨ml, hml⟩ : ∃ ml, ml = M.length := ⟨_, rfl⟩
  have HML : Hid (ml = M.length) := hml
  rw [← hml] at hmc ⊢
  obtain ⟨hmc1, hmc2⟩ := hmc
  clear hR hlast hsit ht hz hT hm hf hM hml
  have HTA : Hid (∀ v ra rc, IsNodes v ra z rc (ndK (t.flat 0)) (ndN (t.flat 0)) (ndA (t.flat 0)) (ndB (t.flat 0)) → Calls Tryz.prog 96 #[.slice ra z rc, .int .i64 pa] v fun e w' => e = .returned (.string a.txt) ∧ Below v.heap.size v w') := fun v ra rc hv => by
    have hs := HSit.out
    have hff := HF.out.1
    rw [HTT.out.1] at hff
    have e1 := HTT.out.1
    have e2 := HTT.out.2.1
    rw [e1] at e2
    simp only [Tr.size] at e2
    have h3 : ∀ (Kd N A B : Nat → Int), Sits Kd N A B t 0 → Sits Kd N A B a (0) := fun Kd N A B h => by rw [e1] at h; exact h.1
    rw [HPA.out]
    exact text_any (by omega) a (0) hff.1 (h3 _ _ _ _ hs) (by omega) v hv
  have HTB : Hid (∀ v ra rc, IsNodes v ra z rc (ndK (t.flat 0)) (ndN (t.flat 0)) (ndA (t.flat 0)) (ndB (t.flat 0)) → Calls Tryz.prog 96 #[.slice ra z rc, .int .i64 pb] v fun e w' => e = .returned (.string b.txt) ∧ Below v.heap.size v w') := fun v ra rc hv => by
    have hs := HSit.out
    have hff := HF.out.1
    rw [HTT.out.1] at hff
    have e1 := HTT.out.1
    have e2 := HTT.out.2.1
    rw [e1] at e2
    simp only [Tr.size] at e2
    have h3 : ∀ (Kd N A B : Nat → Int), Sits Kd N A B t 0 → Sits Kd N A B b (0 + a.size) := fun Kd N A B h => by rw [e1] at h; exact h.2.1
    rw [HPB.out]
    exact text_any (by omega) b (0 + a.size) hff.2 (h3 _ _ _ _ hs) (by omega) v hv
  obtain ⟨ta, hta⟩ : ∃ ta, ta = a.txt := ⟨_, rfl⟩
  obtain ⟨tb, htb⟩ : ∃ tb, tb = b.txt := ⟨_, rfl⟩
  rw [← hta] at HTA ⊢
  rw [← htb] at HTB ⊢
  clear hta htb
  have en1 : ∀ args w, (callFunc 96 args).run Tryz.prog w = .ok (.enter 96 args) w := enters_of Tryz.func96 (by kernel_rfl) rfl
  have HEN := (show Hid _ from en1)
  clear en1
  go_enter Tryz.func73, Tryz.ntmps73
  go_wp2_with fail
  refine HR.out.mono ?_
  rintro e w1 ⟨ra, rc, rfl, hN, hB1⟩
  have HN : Hid (IsNodes w1 ra z rc (ndK (t.flat 0)) (ndN (t.flat 0)) (ndA (t.flat 0)) (ndB (t.flat 0))) := hN
  have HB1 : Hid (Below w.heap.size w w1) := hB1
  obtain ⟨hn1, hn2, hn3⟩ := hN
  obtain ⟨BB, off, hra, hbs, hcell⟩ := hn3 (by omega)
  have HRA : Hid (ra = some ⟨BB, off, none⟩) := hra
  obtain ⟨c0, c1, c2, c3⟩ := hcell m hmz
  obtain ⟨l0, l1, l2, l3⟩ := HLast.out
  rw [l0] at c0; rw [l1] at c1; rw [l2] at c2; rw [l3] at c3
  clear hn3 hcell hB1 l0 l1 l2 l3
  subst hra
  obtain ⟨w2, hw2⟩ : ∃ w2, w2 = w1.alloc (.cells #[.int .i64 5, .int .i64 0, .int .i64 pa, .int .i64 pb] 158) := ⟨_, rfl⟩
  have HW2 : Hid (w2 = w1.alloc (.cells #[.int .i64 5, .int .i64 0, .int .i64 pa, .int .i64 pb] 158)) := hw2
  have HB2 : Hid (Below w1.heap.size w1 w2) := by show Below _ _ _; rw [hw2]; exact (Below.refl _ _).alloc (Nat.le_refl _) _
  have HG2 : Hid (w2.heap[w1.heap.size]? = some (.cells #[.int .i64 5, .int .i64 0, .int .i64 pa, .int .i64 pb] 158 (0, 0))) := by show _ = _; rw [hw2]; exact heap_alloc_new _ _
  clear hw2
  go_wp2
  rw [← HW2.out]
  refine wp_letter ?_
  intro fr hfr
  have hsz : 31 < fr.tmps.size := by rw [hfr]; exact Nat.le_of_ble_eq_true rfl
  have t5 : fr.eval (.tmp 5) = .slice (some ⟨BB, off, none⟩) z rc := by rw [hfr]; rfl
  have t7 : fr.eval (.tmp 7) = .pointer (some ⟨w1.heap.size, 0, none⟩) := by rw [hfr]; rfl
  have HFR := (show Hid _ from hfr)
  clear hfr
  refine wp_region_factsO (by kernel_rfl) (by kernel_rfl) dsP slotP (PF (some ⟨BB, off, none⟩) z rc w1.heap.size pa pb ta tb w2.heap.size) (fun _ _ _ _ h hB => h.below hB) (fun i hi => slotP_mem i hi) (fun i j hi hj q => slotP_inj i j hi hj q) ?_ ?_
  · intro ops hops f wy i o hy ho hd
    have ho2 := ho
    rw [hops] at ho
    have N5 := (canon_eval_ne fr dsP f 5 (by decide)).trans t5
    have N7 := (canon_eval_ne fr dsP f 7 (by decide)).trans t7
    have HNY := HN.out.below (HB2.out.trans (hy.mono HB2.out.size))
    have k2 : wy.cell? ⟨w1.heap.size, 2, none⟩ = some (.int .i64 pa) := cellN ((hy.block _ (lt_of_block HG2.out)).trans HG2.out)
    have k3 : wy.cell? ⟨w1.heap.size, 3, none⟩ = some (.int .i64 pb) := cellN ((hy.block _ (lt_of_block HG2.out)).trans HG2.out)
    have hi : i < 10 := by
      rcases Nat.lt_or_ge i 10 with h | h
      · exact h
      · rw [Array.getElem?_eq_none (by simpa using h)] at ho; cases ho
    have hi' : i = 0 ∨ i = 1 ∨ i = 2 ∨ i = 3 ∨ i = 4 ∨ i = 5 ∨ i = 6 ∨ i = 7 ∨ i = 8 ∨ i = 9 := by omega
    clear hops
    rcases hi' with rfl | rfl | rfl | rfl | rfl | rfl | rfl | rfl | rfl | rfl <;> simp only [List.getElem?_toArray, List.getElem?_cons_succ, List.getElem?_cons_zero, Option.some.injEq] at ho <;> subst ho
    · refine wpOp_runG ho2 (wanted_none rfl) (q_moveP (canon fr dsP f).eval _ wy _ rfl) ?_
      exact ⟨_, rfl, N5, Below.refl _ _⟩
    · refine wpOp_runG ho2 (wanted_none rfl) (q_fieldP (canon fr dsP f).eval _ wy _ _ 2 rfl N7 (.inl rfl)) ?_
      exact ⟨_, rfl, rfl, Below.refl _ _⟩
    · refine wpOp_runG ho2 (wanted_none rfl) (q_loadP (canon fr dsP f).eval _ wy _ _ _ rfl ((canon_eval fr dsP f 24 (by decide) (Nat.lt_of_le_of_lt (by decide) hsz)).trans (hd ⟨1, .data⟩ (by simp) rfl)) k2) ?_
      exact ⟨_, rfl, rfl, Below.refl _ _⟩
    · refine wpOp_enterG ho2 (wanted_none rfl) (q_call2P (canon fr dsP f).eval _ wy _ HEN.out _ _ _ rfl rfl) ?_
      rw [((canon_eval fr dsP f 23 (by decide) (Nat.lt_of_le_of_lt (by decide) hsz)).trans (hd ⟨0, .data⟩ (by simp) rfl)), ((canon_eval fr dsP f 25 (by decide) (Nat.lt_of_le_of_lt (by decide) hsz)).trans (hd ⟨2, .data⟩ (by simp) rfl))]
      refine (HTA.out wy _ _ HNY).mono ?_
      rintro e wz ⟨rfl, hz⟩
      exact ⟨_, rfl, _, rfl, rfl, hz⟩
    · refine wpOp_runG ho2 (wanted_none rfl) (q_moveP (canon fr dsP f).eval _ wy _ rfl) ?_
      exact ⟨_, rfl, N5, Below.refl _ _⟩
    · refine wpOp_runG ho2 (wanted_none rfl) (q_fieldP (canon fr dsP f).eval _ wy _ _ 3 rfl N7 (.inr rfl)) ?_
      exact ⟨_, rfl, rfl, Below.refl _ _⟩
    · refine wpOp_runG ho2 (wanted_none rfl) (q_loadP (canon fr dsP f).eval _ wy _ _ _ rfl ((canon_eval fr dsP f 28 (by decide) (Nat.lt_of_le_of_lt (by decide) hsz)).trans (hd ⟨5, .data⟩ (by simp) rfl)) k3) ?_
      exact ⟨_, rfl, rfl, Below.refl _ _⟩
    · refine wpOp_enterG ho2 (wanted_none rfl) (q_call2P (canon fr dsP f).eval _ wy _ HEN.out _ _ _ rfl rfl) ?_
      rw [((canon_eval fr dsP f 27 (by decide) (Nat.lt_of_le_of_lt (by decide) hsz)).trans (hd ⟨4, .data⟩ (by simp) rfl)), ((canon_eval fr dsP f 29 (by decide) (Nat.lt_of_le_of_lt (by decide) hsz)).trans (hd ⟨6, .data⟩ (by simp) rfl))]
      refine (HTB.out wy _ _ HNY).mono ?_
      rintro e wz ⟨rfl, hz⟩
      exact ⟨_, rfl, _, rfl, rfl, hz⟩
    · refine wpOp_runG ho2 (wanted_none rfl) (q_buildP (canon fr dsP f).eval _ wy _ _ ta tb rfl ((canon_eval fr dsP f 26 (by decide) (Nat.lt_of_le_of_lt (by decide) hsz)).trans (hd ⟨3, .data⟩ (by simp) rfl)) ((canon_eval fr dsP f 30 (by decide) (Nat.lt_of_le_of_lt (by decide) hsz)).trans (hd ⟨7, .data⟩ (by simp) rfl))) ?_
      exact ⟨_, rfl, ⟨_, hy.size, rfl, heap_alloc_new _ _⟩, (Below.refl _ _).alloc (Nat.le_refl _) _⟩
    · have h8 := hd ⟨8, .data⟩ (by simp) rfl
      have e8 := canon_eval fr dsP f 31 (by decide) (Nat.lt_of_le_of_lt (by decide) hsz)
      refine wpOp_runG ho2 (wanted_none rfl) (q_assignP (canon fr dsP f).eval _ wy _ rfl) ?_
      exact ⟨_, rfl, by rw [e8]; exact h8, Below.refl _ _⟩
  · intro f wy hy hall
    have h9 : Two2 w2.heap.size ta tb (f 4) wy := hall 9 (by decide)
    have HY : Hid (OwnL wy w.heap.size (f 4) [ta.toList, tb.toList] ∧ Below w.heap.size w wy) := ⟨h9.own (Nat.le_trans HB1.out.size HB2.out.size), HB1.out.trans ((HB2.out.trans (hy.mono HB2.out.size)).mono HB1.out.size)⟩
    rw [HFR.out]
    simp only [canon, dsP, List.foldl, Act.put, List.setIfInBounds_toArray, List.set_cons_succ, List.set_cons_zero]
    obtain ⟨rv, hrv⟩ : ∃ rv, rv = f 4 := ⟨_, rfl⟩
    rw [← hrv] at HY ⊢
    clear h9 hall hrv hy
    go_wp2
    go_ret
    exact ⟨rv, rfl, HY.out.1, HY.out.2⟩
end Go.Proofs.YtcolcnkjcagbaaaGreatDoor

namespace Go.Proofs.YtcolcnkjcagbaaaGreatDoor
open Go.RowKit Go.Maps
set_option linter.unusedVariables false

theorem insT_keyed (M : List (List UInt8)) (k n : Nat) (a : Tr) : insT M ⟨.inr (.inr (.inr (k, n, a)))⟩ = if k = 7 ∨ (keyT n).txt.toList ∈ M then [a.txt.toList] else [] := by rw [insT]
theorem inside_any (t : Tr) (hf : Fit t) (base g gc : Nat) (M : List (List UInt8)) (w : World) (hM : OwnS w base g gc M) :
    Calls Tryz.prog 73 #[.slice (some ⟨g, 0, none⟩) M.length gc, .string t.txt] w fun e w' => ∃ v, e = .returned v ∧ OwnL w' w.heap.size v (insT M t) ∧ Below w.heap.size w w' := by
  obtain ⟨x⟩ := t
  rcases x with ⟨k, n⟩ | u | ⟨a, b⟩ | ⟨k, n, a⟩
  · exact ins_leaf k n hf base g gc M w hM
  · exact ins_hash u hf base g gc M w hM
  · exact ins_pair a b hf base g gc M w hM
  · rw [insT_keyed]
    rcases hf.1.1 with hk | hk
    · by_cases hm : (keyT n).txt.toList ∈ M
      · rw [if_pos (.inr hm)]
        exact ins_open k n a hf base g gc M w hM hk hf.1.2.1 hm
      · rw [if_neg (by rintro (h | h); omega; exact hm h)]
        exact ins_shut k n a hf base g gc M w hM hk hf.1.2.1 hm
    · rw [if_pos (.inl hk)]
      exact ins_sign k n a hf base g gc M w hM hk

theorem trl_ex (S : Nat → ByteArray) : ∀ n, termsB S n = true → ∃ L, TrL S n L
  | 0, _ => ⟨[], rfl, fun i hi => absurd hi (Nat.not_lt_zero _)⟩
  | n + 1, h => by
    rw [termsB_succ, Bool.and_eq_true] at h
    obtain ⟨L, hL⟩ := trl_ex S n h.1
    obtain ⟨v, hv⟩ := Option.isSome_iff_exists.1 h.2
    obtain ⟨t, _, hf, ht⟩ := rT_fit hv
    exact ⟨L ++ [t], hL.add hf ht⟩
theorem known_of {S : Nat → ByteArray} {n : Nat} (h : knownB S n = true) : n ≤ 30 ∧ riseB S n = true ∧ termsB S n = true := by
  unfold knownB at h
  simp only [Bool.and_eq_true, decide_eq_true_eq] at h
  exact ⟨h.1.1, h.1.2, h.2⟩
/-- up to sixty right texts, rising -/
def KnW (S : Nat → ByteArray) (n : Nat) : Prop := n ≤ 60 ∧ riseB S n = true ∧ termsB S n = true
theorem known_w {S : Nat → ByteArray} {n : Nat} (h : knownB S n = true) : KnW S n := ⟨Nat.le_trans (known_of h).1 (by decide), (known_of h).2⟩
theorem shut_fit : Shut Fit := ⟨fun t u h => ⟨h.kid (by simp [pairT, Tr.kids]), h.kid (by simp [pairT, Tr.kids])⟩, fun n t h => h.kid (by simp [signT, Tr.kids]), fun n t h _ => h.kid (by simp [sealT, Tr.kids])⟩
theorem op_fit {S : Nat → ByteArray} {n : Nat} {t : Tr} (h : Op (Kn S n) t) : Fit t := h Fit (fun u hu => hu.1) shut_fit

/-- M rises, holds the known texts, and none that is not opened -/
structure OM (S : Nat → ByteArray) (len : Nat) (M : List (List UInt8)) : Prop where
  up : Up M
  no : ∀ x, x ∈ M → OpT S len x
  all : ∀ j, j < len → (S j).toList ∈ M
theorem OM.len {S : Nat → ByteArray} {len : Nat} {M : List (List UInt8)} (hq : KnW S len) (h : OM S len M) : M.length ≤ 4000 := by
  obtain ⟨h30, _, ht⟩ := hq
  obtain ⟨L, hL⟩ := trl_ex S len ht
  have hfit : ∀ t, t ∈ L → Fit t := fun t h => ((hL.mem t).1 h).1
  have hU := uniOf_is hfit (by rw [hL.1]; omega)
  have := len_le M ((uniOf L).map fun t => t.txt.toList) h.up.nodup (fun x hx => by
    obtain ⟨t, ho, e⟩ := h.no x hx
    exact List.mem_map.2 ⟨t, Op.uni hfit (by rw [hL.1]; omega) (ho.mono fun u hu => (hL.mem u).2 hu), e⟩)
  rw [List.length_map] at this
  exact Nat.le_trans this hU.len
theorem OM.put {S : Nat → ByteArray} {len : Nat} {M : List (List UInt8)} (h : OM S len M) {s : List UInt8} (hs : OpT S len s) : OM S len (putL M s) :=
  ⟨putL_up _ _ h.up, fun x hx => by
    rcases (putL_mem s x M).1 hx with h1 | rfl
    · exact h.no x h1
    · exact hs, fun j hj => (putL_mem s _ M).2 (.inl (h.all j hj))⟩
/-- of the first i texts of M what can be taken out is in M -/
def ClT (i : Nat) (M : List (List UInt8)) : Prop := ∀ j, j < i → ∀ t, Fit t → t.txt.toList = M.getD j [] → ∀ x, x ∈ insT M t → x ∈ M
/-- what is taken out of an opened one is opened -/
theorem ins_op {S : Nat → ByteArray} {len : Nat} {M : List (List UInt8)} (h : ∀ x, x ∈ M → OpT S len x) {t : Tr} (ht : Op (Kn S len) t) : ∀ x, x ∈ insT M t → OpT S len x := by
  obtain ⟨y⟩ := t
  rcases y with ⟨k, n⟩ | u | ⟨a, b⟩ | ⟨k, n, a⟩
  · intro x hx; simp [insT] at hx
  · intro x hx; simp [insT] at hx
  · intro x hx
    have hp := (Op.shut (Kn S len)).pair a b ht
    simp only [insT, List.mem_cons, List.not_mem_nil, or_false] at hx
    rcases hx with rfl | rfl
    · exact ⟨a, hp.1, rfl⟩
    · exact ⟨b, hp.2, rfl⟩
  · intro x hx
    have hf := op_fit ht
    rw [insT_keyed] at hx
    split at hx
    · rename_i hc
      rw [List.mem_singleton] at hx
      subst hx
      refine ⟨a, ?_, rfl⟩
      rcases hf.1.1 with hk | hk
      · subst hk
        rcases hc with hc | hc
        · omega
        · obtain ⟨u, hu, e⟩ := h _ hc
          rw [txt_inj (op_fit hu) (fitKey hf.1.2.1) e] at hu
          exact (Op.shut (Kn S len)).sealK n a ht hu
      · subst hk
        exact (Op.shut (Kn S len)).sign n a ht
    · cases hx
theorem OM.done {S : Nat → ByteArray} {len : Nat} {M : List (List UInt8)} (h : OM S len M) (hc : ClT M.length M) (x : List UInt8) : x ∈ M ↔ OpT S len x := by
  refine ⟨h.no x, ?_⟩
  rintro ⟨t, ht, rfl⟩
  have key : ∀ u, u.txt.toList ∈ M → Fit u → ∀ x, x ∈ insT M u → x ∈ M := fun u hu hf => by
    obtain ⟨i, hi, e⟩ := List.mem_iff_getElem.1 hu
    exact hc i hi u hf (by rw [List.getD_eq_getElem?_getD, List.getElem?_eq_getElem hi]; exact e.symm)
  refine (ht (fun u => Fit u ∧ u.txt.toList ∈ M) (fun u hu => ⟨hu.1, ?_⟩) ⟨fun a b hp => ?_, fun n a hs => ?_, fun n a hs hk => ?_⟩).2
  · obtain ⟨_, i, hi, e⟩ := hu
    rw [e]
    exact h.all i hi
  · have h1 := key _ hp.2 hp.1
    exact ⟨⟨(shut_fit.pair a b hp.1).1, h1 _ (by simp [insT, pairT])⟩, (shut_fit.pair a b hp.1).2, h1 _ (by simp [insT, pairT])⟩
  · exact ⟨shut_fit.sign n a hs.1, key _ hs.2 hs.1 _ (by simp [insT, signT])⟩
  · exact ⟨hs.1.kid (by simp [sealT, Tr.kids]), key _ hs.2 hs.1 _ (by unfold sealT; rw [insT_keyed, if_pos (.inr hk.2)]; simp)⟩
theorem putL_new (s : List UInt8) : ∀ L : List (List UInt8), s ∉ L → (putL L s).length = L.length + 1
  | [], _ => by simp [putL]
  | x :: l, h => by
    have h1 : s ∉ l := fun hh => h (List.mem_cons_of_mem _ hh)
    have h2 : ¬ x = s := fun e => h (by rw [e]; exact List.mem_cons_self)
    have ih := putL_new s l h1
    unfold putL
    split
    · simp [ih]
    · simp
theorem has_lit (base g gc : Nat) (M : List (List UInt8)) (s : ByteArray) (w : World) (h : OwnS w base g gc M) (b : Bool) (hb : decide (s.toList ∈ M) = b) :
    Calls Tryz.prog 57 #[.slice (some ⟨g, 0, none⟩) M.length gc, .string s] w fun e w' => e = .returned (.bool b) ∧ w' = w := by
  subst hb
  exact hasM_any base g gc M s w h
def lenOf : Value → Nat
  | .slice _ n _ => n
  | _ => 0
def boolOf : Value → Nat
  | .bool true => 1
  | _ => 0
theorem rise_upO {S : Nat → ByteArray} {n : Nat} (h : riseB S n = true) : ∀ k, 0 < k → k < n → upB S k = true := fun k h0 hk => by
  cases hq : upB S k with
  | true => rfl
  | false =>
    rw [riseB_false hk h0 hq] at h
    cases h
theorem rise_lessO {S : Nat → ByteArray} {n : Nat} (h : riseB S n = true) (i : Nat) : ∀ d, i + d + 1 < n → Op.bytesLess (S i).toList (S (i + d + 1)).toList = true
  | 0, hd => rise_upO h (i + 1) (by omega) hd
  | d + 1, hd => bl_trans _ _ _ (rise_lessO h i d (by omega)) (rise_upO h (i + d + 1 + 1) (by omega) hd)

/-- the first list: the known texts -/
theorem om_first {S : Nat → ByteArray} {len : Nat} (hq : KnW S len) : OM S len (LL S len) := by
  obtain ⟨h30, hr, ht⟩ := hq
  have mem : ∀ x, x ∈ LL S len ↔ ∃ i, i < len ∧ (S i).toList = x := fun x => by simp [LL]
  refine ⟨?_, fun x hx => ?_, fun j hj => (mem _).2 ⟨j, hj, rfl⟩⟩
  · unfold LL Up
    rw [List.pairwise_map]
    refine List.Pairwise.imp_of_mem (fun {a b} ha hb hlt => ?_) (List.pairwise_lt_range (n := len))
    have := rise_lessO hr a (b - a - 1) (by have := List.mem_range.1 hb; omega)
    rw [show a + (b - a - 1) + 1 = b by omega] at this
    exact this
  · obtain ⟨i, hi, rfl⟩ := (mem x).1 hx
    obtain ⟨L, hL⟩ := trl_ex S len ht
    obtain ⟨t, _, hf, e⟩ := hL.2 i hi
    exact ⟨t, .base ⟨hf, i, hi, e⟩, by rw [e]⟩
end Go.Proofs.YtcolcnkjcagbaaaGreatDoor

namespace Go.Proofs.YtcolcnkjcagbaaaGreatDoor
open Go.RowKit Go.Maps
set_option linter.unusedVariables false

theorem atL_txt {M : List (List UInt8)} {i : Nat} {t : Tr} (h : t.txt.toList = M.getD i []) : atL M i = t.txt := by
  have h1 : (atL M i).toList = t.txt.toList := by rw [atL_list, h]
  rw [ByteArray.toList_eq, ByteArray.toList_eq] at h1
  exact ByteArray.ext (Array.ext' h1)

/-- a whole list behind an empty one -/
theorem app0S (w : World) (ty : TypeId) (g : Nat) (a : Option Addr) (len cap : Nat) (S : Nat → ByteArray) (hg : w.heap[g]? = some (.cells #[] 9 (0, 0))) (hx : IsStrs w a len cap S) (hl : len ≤ 1000) :
    ∃ g' c w', (Builtin.append_ #[23, 23] ty #[.slice (some ⟨g, 0, none⟩) 0 0, .slice a len cap]).run Tryz.prog w = .ok (.slice (some ⟨g', 0, none⟩) (LL S len).length c) w' ∧ OwnS w' g g' c (LL S len) ∧ Below g w w' := by
  obtain ⟨i0, hi, hz0, hz1, hz2⟩ := info_parts info9
  have hgl := lt_of_block hg
  have hown : w.ownsRow g 9 1 (.slice (some ⟨g, 0, none⟩) 0 0) 0 [] := ⟨rfl, .inr ⟨g, 0, #[], rfl, Nat.le_refl _, hg, Nat.le_refl _, Nat.zero_le _, rfl, rfl⟩⟩
  by_cases h0 : len = 0
  · subst h0
    cases a with
    | none =>
      refine ⟨g, 0, w, ?_, hown, Below.refl _ _⟩
      simp [Builtin.append_, run_underlying Tryz.underlying23, sizeOf, typeInfo, hi, Builtin.lenOf, Builtin.firstCells, storeCells, LL]
    | some ad =>
      have hr := run_append_room (P := Tryz.prog) w 23 ty 9 i0 Tryz.underlying23 hi g 0 0 #[] hg ad 0 cap [] (by simp) (fun j u hu => by simp at hu) (by simp) (Nat.le_refl _) (by simp)
      refine ⟨g, 0, _, hr, ⟨rfl, .inr ⟨g, 0, #[], rfl, Nat.le_refl _, ?_, Nat.le_refl _, Nat.zero_le _, rfl, rfl⟩⟩, ⟨rfl, rfl, rfl, by simp [World.setRow], fun k hk => ?_⟩⟩
      · rw [setRow_heap _ _ _ _ _ _ hg]; simp
      · exact setRow_other _ _ _ _ (by omega)
  · obtain ⟨b, off, rfl, hb, hc⟩ := hx.2.2 (by omega)
    have hlies : Lies w b off (LL S len) := fun i hi => by
      rw [LL_len] at hi
      rw [LL_at S hi, hc i hi, enc_str]
    obtain ⟨v', w', hr, h2, h3, h4⟩ := run_append_own (P := Tryz.prog) w g 23 ty 9 i0 (.string ⟨#[]⟩) 1 16 Tryz.underlying23 hi hz0 hz1 hz2 rfl (by decide) (.slice (some ⟨g, 0, none⟩) 0 0) 0 [] hown ⟨b, off, none⟩ len cap ((LL S len).map encStr) (by rw [List.length_map, LL_len, Nat.mul_one]) hlies.news (one_enc _) (by unfold maxLen; omega) (by omega) (by omega)
    rw [Nat.zero_add, List.nil_append] at h2
    obtain ⟨g', c, rfl, hf⟩ := own_form h2 (L := LL S len) (by rw [LL_len]) rfl (fun e => by have := (h4.1 e).1; cases this)
    exact ⟨g', c, w', hr, hf, (Below.refl g w).grown h3 (by omega) (fun k hk => (World.ownsRow.lt hown k hk).1)⟩
theorem wpList_app0S {ops : Array Oper} {Q : Exit → Act → World → Prop} {t : Act} {w : World} {rest : List Oper} {o : Oper} (hg0 : o.guard = none) (x y : Operand)
    (h : o.op = .call { callee := .builtin .append, args := #[x, y], argTypes := #[23, 23] }) (g : Nat) (a : Option Addr) (len cap : Nat) (S : Nat → ByteArray) (hx : t.eval x = .slice (some ⟨g, 0, none⟩) 0 0) (hy : t.eval y = .slice a len cap)
    (hg : w.heap[g]? = some (.cells #[] 9 (0, 0))) (hS : IsStrs w a len cap S) (hl : len ≤ 1000)
    (hK : ∀ g' c w', OwnS w' g g' c (LL S len) → Below g w w' → wpList Tryz.prog ops Q rest (t.put o.dst (.slice (some ⟨g', 0, none⟩) (LL S len).length c)) w') : wpList Tryz.prog ops Q (o :: rest) t w :=
  wpList_plain hg0 fun K hK' => by
    obtain ⟨g', c, w', hr, h1, h2⟩ := app0S w o.type g a len cap S hg hS hl
    unfold Oper.wp execOp
    simp only [h, resolve, invoke, builtin, Sem.run_bind, Sem.run_pure, Result.andThen_ok, List.map_toArray, List.map_cons, List.map_nil, hx, hy, hr]
    exact hK' _ _ (hK g' c w' h1 h2)

set_option maxRecDepth 8000 in
set_option maxHeartbeats 8000000 in
theorem l2Opened_any (S : Nat → ByteArray) (len : Nat) (a : Option Addr) (cap : Nat) (w : World) (h : IsStrs w a len cap S) (hq : KnW S len) :
    Calls Tryz.prog 56 #[.slice a len cap] w fun e w' => ∃ go oc L, e = .returned (.slice (some ⟨go, 0, none⟩) L.length oc) ∧ OwnS w' w.heap.size go oc L ∧ Up L ∧ (∀ x, x ∈ L ↔ OpT S len x) ∧ Below w.heap.size w w' := by
  have HQ : Hid (KnW S len) := hq
  have HOM : Hid (OM S len (LL S len)) := om_first hq
  have h30 := hq.1
  have hl1 : len ≤ 1000 := by omega
  obtain ⟨w1, hw1⟩ : ∃ w1, w1 = w.alloc (.cells #[] 9) := ⟨_, rfl⟩
  have hBa : Below w.heap.size w w1 := by rw [hw1]; exact (Below.refl _ _).alloc (Nat.le_refl _) _
  have HBA : Hid (Below w.heap.size w w1) := hBa
  have HG1 : Hid (w1.heap[w.heap.size]? = some (.cells #[] 9 (0, 0))) := by show _ = _; rw [hw1]; exact heap_alloc_new _ _
  have HI1 : Hid (IsStrs w1 a len cap S) := h.below hBa
  have HW1 : Hid (w1 = w.alloc (.cells #[] 9)) := hw1
  obtain ⟨hlc, hcm, _⟩ := h
  clear hBa hw1 hq h30
  go_enter Tryz.func56, Tryz.ntmps56
  go_wp2_with (at_builtin; rw [← HW1.out]; refine wpList_app0S rfl _ _ rfl w.heap.size a len cap S rfl rfl HG1.out HI1.out hl1 ?_; intro g0 c0 w2 ho2 hB2; have HO2 : Hid (OwnS w2 w.heap.size g0 c0 (LL S len)) := ho2; have HB2 : Hid (Below w.heap.size w w2) := HBA.out.trans hB2; clear ho2 hB2)
  go_loopw [4, 3] (fun mo v wr => ∃ (c : Bool) (g1 c1 : Nat) (L : List (List UInt8)), mo = .bool c ∧ v = .slice (some ⟨g1, 0, none⟩) L.length c1 ∧ OwnS wr w.heap.size g1 c1 L ∧ Hid (OM S len L) ∧ Hid (c = false → ClT L.length L) ∧ Below w.heap.size w wr) (fun mo v _ => 2 * (4000 - lenOf v) + boolOf mo)
  case atStart => exact ⟨true, g0, c0, LL S len, rfl, rfl, HO2.out, HOM.out, (fun h => by cases h), HB2.out⟩
  case round =>
    clear HO2 HB2
    obtain ⟨c, g0, c0, L0, rfl, rfl, ho, HB0, HCL, hB⟩ := hrel
    have HO0 : Hid (OwnS wr w.heap.size g0 c0 L0) := ho
    have HBW0 : Hid (Below w.heap.size w wr) := hB
    clear ho hB
    cases c with
    | false =>
      go_wp2
      go_ret
      exact ⟨g0, c0, L0, rfl, HO0.out, HB0.out.up, HB0.out.done (HCL.out (by trivial)), HBW0.out⟩
    | true =>
      clear HCL
      go_wp2
      go_loopw [4, 3, 5] (fun mo v q wr => ∃ (c : Bool) (g1 c1 : Nat) (L : List (List UInt8)) (i : Nat), mo = .bool c ∧ v = .slice (some ⟨g1, 0, none⟩) L.length c1 ∧ q = .int .i64 i ∧ i ≤ L0.length ∧ OwnS wr w.heap.size g1 c1 L ∧ Hid (OM S len L) ∧ Hid (c = false → L = L0 ∧ ClT i L) ∧ Hid (c = true → L0.length < L.length) ∧ Below w.heap.size w wr) (fun _ _ q _ => L0.length - (intOf q).toNat)
      case atStart => exact ⟨false, g0, c0, L0, 0, rfl, rfl, rfl, Nat.zero_le _, HO0.out, HB0.out, (fun _ => ⟨rfl, fun i hi => absurd hi (Nat.not_lt_zero _)⟩), (fun h => by cases h), HBW0.out⟩
      case round =>
        obtain ⟨c, g1, c1, L, i, rfl, rfl, rfl, hi, ho, HB1, HCF, HCT, hB⟩ := hrel
        have HO1 : Hid (OwnS wr w.heap.size g1 c1 L) := ho
        have HBW1 : Hid (Below w.heap.size w wr) := hB
        have hcap := ho.caps
        obtain ⟨hcap1, hcap2⟩ := hcap
        clear ho hB
        cases c with
        | true =>
          have HGT : Hid (L0.length < L.length) := HCT.out (by trivial)
          have hgt := HGT.out
          have hiL : (i : Int) < (L.length : Int) := by omega
          clear HCF HCT hgt
          go_wp2
          go_roundw
          case rel => exact ⟨true, g1, c1, L, rfl, rfl, HO1.out, HB1.out, (fun h => by cases h), HBW1.out⟩
          case measure =>
            have h1 := HB1.out.len HQ.out
            have := HGT.out
            simp [lenOf, boolOf]
            omega
        | false =>
          obtain ⟨e0, hcl⟩ := HCF.out (by trivial)
          have HCL : Hid (ClT i L0) := by rw [e0] at hcl; exact hcl
          have HE0 : Hid (L = L0) := e0
          clear HCF HCT hcl
          subst e0
          by_cases hit : i < L.length
          · have hiI : (i : Int) < (L.length : Int) := by omega
            have hi4 : i < 5000 := by have := HB1.out.len HQ.out; omega
            obtain ⟨x, hx⟩ : ∃ x, L[i]? = some x := ⟨_, List.getElem?_eq_getElem hit⟩
            have hxm : x ∈ L := List.mem_of_getElem? hx
            obtain ⟨t, hto, htx⟩ := HB1.out.no x hxm
            have hgd : t.txt.toList = L.getD i [] := by rw [List.getD_eq_getElem?_getD, hx]; exact htx
            have HTO : Hid (Op (Kn S len) t) := hto
            have HGD : Hid (t.txt.toList = L.getD i []) := hgd
            have d1 : wr.cell? ⟨g1, i, none⟩ = some (.string t.txt) := by
              have := HO1.out.lies.1 i hit
              rw [Nat.zero_add, ← hgd, enc_str] at this
              exact this
            have HIN : Hid (Calls Tryz.prog 73 #[.slice (some ⟨g1, 0, none⟩) L.length c1, .string t.txt] wr fun e w' => ∃ v, e = .returned v ∧ OwnL w' wr.heap.size v (insT L t) ∧ Below wr.heap.size wr w') := inside_any t (op_fit hto) w.heap.size g1 c1 L wr HO1.out
            obtain ⟨T, hT⟩ : ∃ T, T = t.txt := ⟨_, rfl⟩
            rw [← hT] at d1 HIN
            clear hx hxm hto htx hgd hT
            go_wp2_with fail
            refine HIN.out.mono ?_
            rintro e w3 ⟨vin, rfl, hoi, hB3⟩
            obtain ⟨IL, hIL⟩ : ∃ IL, IL = insT L t := ⟨_, rfl⟩
            rw [← hIL] at hoi
            have HILE : Hid (IL = insT L t) := hIL
            obtain ⟨ia, ic, rfl, hii, _⟩ := hoi.strs
            have HII : Hid (IsStrs w3 ia IL.length ic (atL IL)) := hii
            obtain ⟨hic1, hic2, _⟩ := hii
            have HB3 : Hid (Below wr.heap.size wr w3) := hB3
            have HBW3 : Hid (Below w.heap.size w w3) := HBW1.out.trans (hB3.mono HBW1.out.size)
            have HO3 : Hid (OwnS w3 w.heap.size g1 c1 L) := HO1.out.below hB3
            clear hoi hB3 hIL d1 HIN
            go_wp2
            go_loopw [4, 3, 7] (fun mo v q wr => ∃ (c : Bool) (g2 c2 : Nat) (M : List (List UInt8)) (k : Nat), mo = .bool c ∧ v = .slice (some ⟨g2, 0, none⟩) M.length c2 ∧ q = .int .i64 k ∧ k ≤ IL.length ∧ OwnS wr w.heap.size g2 c2 M ∧ Hid (OM S len M) ∧ Hid (c = false → M = L) ∧ Hid (∀ j, j < k → IL.getD j [] ∈ M) ∧ Hid (c = true → L.length < M.length) ∧ Hid (Below w3.heap.size w3 wr) ∧ Below w.heap.size w wr) (fun _ _ q _ => IL.length - (intOf q).toNat)
            case atStart => exact ⟨false, g1, c1, L, 0, rfl, rfl, rfl, Nat.zero_le _, HO3.out, HB1.out, (fun _ => rfl), (fun j hj => absurd hj (Nat.not_lt_zero _)), (fun h => by cases h), Below.refl _ _, HBW3.out⟩
            case round =>
              clear HO1 HBW1 HO3 HBW3 HB3 hcap1 hcap2
              obtain ⟨c, g2, c2, M, k, rfl, rfl, rfl, hk, ho, HB2, HCF, HU, HCT, H3R, hB⟩ := hrel
              have HO2 : Hid (OwnS wr w.heap.size g2 c2 M) := ho
              have HBW2 : Hid (Below w.heap.size w wr) := hB
              have hcap := ho.caps
              obtain ⟨hcap1, hcap2⟩ := hcap
              have HLL : Hid (M.length ≤ 2000000) := by
                have h1 := HB2.out.len HQ.out
                show _ ≤ _
                omega
              clear ho hB
              by_cases hkt : k < IL.length
              · have hkI : (k : Int) < (IL.length : Int) := by omega
                obtain ⟨ub, uo, hu, hubs, hucell⟩ := (HII.out.below H3R.out).2.2 (by omega)
                have d1 := hucell k hkt
                subst hu
                have hop : OpT S len (IL.getD k []) := by
                  refine ins_op HB1.out.no HTO.out _ ?_
                  rw [← HILE.out, List.getD_eq_getElem?_getD, List.getElem?_eq_getElem hkt]
                  exact List.getElem_mem hkt
                have HOPK : Hid (OpT S len (IL.getD k [])) := hop
                have hat : (atL IL k).toList = IL.getD k [] := atL_list IL k
                obtain ⟨sk, hsk⟩ : ∃ sk, sk = atL IL k := ⟨_, rfl⟩
                rw [← hsk] at hat d1
                have HAT : Hid (sk.toList = IL.getD k []) := hat
                clear hucell hop hsk
                cases hy : decide (sk.toList ∈ M) with
                | true =>
                  have HC : Hid (Calls Tryz.prog 57 #[.slice (some ⟨g2, 0, none⟩) M.length c2, .string sk] wr fun e w' => e = .returned (.bool true) ∧ w' = wr) := has_lit w.heap.size g2 c2 M sk wr HO2.out true hy
                  have HU' : Hid (∀ j, j < k + 1 → IL.getD j [] ∈ M) := by
                    intro j hj
                    rcases Nat.lt_succ_iff_lt_or_eq.1 hj with h1 | rfl
                    · exact HU.out j h1
                    · rw [← hat]; exact of_decide_eq_true hy
                  clear hy HU hat
                  go_wp2_with fail
                  refine HC.out.mono ?_
                  rintro e w4 ⟨rfl, hw⟩
                  rw [hw]
                  clear hw w4
                  go_wp2
                  go_roundw
                  case rel => exact ⟨c, g2, c2, M, k + 1, rfl, rfl, by go_num, by omega, HO2.out, HB2.out, HCF.out, HU'.out, HCT.out, H3R.out, HBW2.out⟩
                  case measure => simp [intOf]; omega
                | false =>
                  have HC : Hid (Calls Tryz.prog 57 #[.slice (some ⟨g2, 0, none⟩) M.length c2, .string sk] wr fun e w' => e = .returned (.bool false) ∧ w' = wr) := has_lit w.heap.size g2 c2 M sk wr HO2.out false hy
                  have HP : Hid (Calls Tryz.prog 51 #[.slice (some ⟨g2, 0, none⟩) M.length c2, .string sk] wr fun e w' => ∃ g' gc', e = .returned (.slice (some ⟨g', 0, none⟩) (putL M sk.toList).length gc') ∧ OwnS w' wr.heap.size g' gc' (putL M sk.toList) ∧ Below wr.heap.size wr w') := l1Put_any g2 0 c2 M sk wr HO2.out.lies.1 HO2.out.lies.2.1 HO2.out.caps.1 HO2.out.caps.2 HLL.out
                  have hno : sk.toList ∉ M := of_decide_eq_false hy
                  have HR : Hid (OM S len (putL M sk.toList)) := HB2.out.put (by rw [hat]; exact HOPK.out)
                  have HT' : Hid (L.length < (putL M sk.toList).length) := by
                    show _ < _
                    rw [putL_new _ _ hno]
                    cases c with
                    | true => have := HCT.out rfl; omega
                    | false => rw [HCF.out rfl]; omega
                  have HU' : Hid (∀ j, j < k + 1 → IL.getD j [] ∈ putL M sk.toList) := by
                    intro j hj
                    rcases Nat.lt_succ_iff_lt_or_eq.1 hj with h1 | rfl
                    · exact (putL_mem _ _ M).2 (.inl (HU.out j h1))
                    · exact (putL_mem _ _ M).2 (.inr hat.symm)
                  clear hy hno HU HCF HCT hat
                  go_wp2_with fail
                  refine HC.out.mono ?_
                  rintro e w4 ⟨rfl, hw⟩
                  rw [hw]
                  clear hw w4
                  go_wp2_with fail
                  refine HP.out.mono ?_
                  rintro e w5 ⟨g', gc', rfl, ho5, hB5⟩
                  have HF : Hid (OwnS w5 w.heap.size g' gc' (putL M sk.toList) ∧ Below w.heap.size w w5 ∧ Below w3.heap.size w3 w5) := ⟨mono_base ho5 HBW2.out.size, HBW2.out.trans (hB5.mono HBW2.out.size), H3R.out.trans (hB5.mono H3R.out.size)⟩
                  clear ho5 hB5
                  go_wp2
                  go_roundw
                  case rel => exact ⟨true, g', gc', _, k + 1, rfl, rfl, by go_num, by omega, HF.out.1, HR.out, (fun h => by cases h), HU'.out, (fun _ => HT'.out), HF.out.2.2, HF.out.2.1⟩
                  case measure => simp [intOf]; omega
              · have hke : k = IL.length := by omega
                have HCF' : Hid (c = false → M = L ∧ ClT (i + 1) M) := fun hc => by
                  have e := HCF.out hc
                  refine ⟨e, ?_⟩
                  rw [e]
                  intro j hj u hu hut x hx
                  rcases Nat.lt_succ_iff_lt_or_eq.1 hj with h1 | rfl
                  · exact HCL.out j h1 u hu hut x hx
                  · have hut2 : u = t := txt_inj hu (op_fit HTO.out) (by rw [hut, HGD.out])
                    rw [hut2, ← HILE.out] at hx
                    obtain ⟨q, hq, eq⟩ := List.mem_iff_getElem.1 hx
                    have := HU.out q (by omega)
                    rw [List.getD_eq_getElem?_getD, List.getElem?_eq_getElem hq] at this
                    rw [e] at this
                    rw [← eq]
                    exact this
                have hkI : ¬ ((k : Int) < (IL.length : Int)) := by omega
                clear hkt hke HCF hk
                go_wp2
                go_roundw
                case rel => exact ⟨c, g2, c2, M, i + 1, rfl, rfl, by go_num, by omega, HO2.out, HB2.out, HCF'.out, HCT.out, HBW2.out⟩
                case measure => simp [intOf]; omega
          · have hie : i = L.length := by omega
            subst hie
            have hiI : ¬ ((L.length : Int) < (L.length : Int)) := by omega
            clear hit
            go_wp2
            go_roundw
            case rel => exact ⟨false, g1, c1, L, rfl, rfl, HO1.out, HB1.out, (fun _ => HCL.out), HBW1.out⟩
            case measure => simp [lenOf, boolOf]

end Go.Proofs.YtcolcnkjcagbaaaGreatDoor
