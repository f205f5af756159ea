/-
  The specification's l2Makes: whether a term can be made of what is opened. No condition but that the nodes and the list read.
  CanMake, the program's and the specification's: one answer. No condition but that the slice reads, the text is no longer than the law lets it be, and the table of powers of ten lies.
-/
import Derived.Test.YtpcbhjejpebogaaGreatDoorThC
import Derived.Test.YtpcbhjejpebogaaGreatDoorThS
namespace Go.Proofs.YtpcbhjejpebogaaGreatDoor
open Go.RowKit Go.Maps
set_option linter.unusedVariables false

def inM (M : List (List UInt8)) (t : Tr) : Bool := decide (t.txt.toList ∈ M)
section
variable {Kd N A B : Nat → Int} {a : Option Addr} {len cap base g gc : Nat} {M : List (List UInt8)}
/-- the specification's answer at the node m -/
def MakesS (Kd N A B : Nat → Int) (a : Option Addr) (len cap base g gc : Nat) (M : List (List UInt8)) (t : Tr) (m : Nat) : Prop := ∀ w : World, IsNodes w a len cap Kd N A B → OwnS w base g gc M → Calls Tryz.prog 47 #[.slice (some ⟨g, 0, none⟩) M.length gc, .slice a len cap, .int .i64 (m : Int)] w fun e w' => e = .returned (.bool (mkP (inM M) t)) ∧ Below w.heap.size w w'

set_option maxRecDepth 8000 in
set_option maxHeartbeats 8000000 in
theorem mks_bare (k n : Nat) (o m : Nat) (hlen : len ≤ 40) (hfit : Fit (⟨.inl (k, n)⟩ : Tr)) (hs : Sits Kd N A B (⟨.inl (k, n)⟩ : Tr) o) (hm : m + 1 = o + ((⟨.inl (k, n)⟩ : Tr)).size) (hl : m < len) (hk : k ≠ 2) : MakesS Kd N A B a len cap base g gc M (⟨.inl (k, n)⟩ : Tr) m := by
  intro w hI hM
  obtain ⟨t, ht⟩ : ∃ t : Tr, t = (⟨.inl (k, n)⟩ : Tr) := ⟨_, rfl⟩
  have HTX : Hid (∀ v, IsNodes v a len cap Kd N A B → Calls Tryz.prog 74 #[.slice a len cap, .int .i64 (m : Int)] v fun e w' => e = .returned (.string t.txt) ∧ Below v.heap.size v w') := fun v hv => by
    have h1 := text_any hlen _ o hfit.1 hs (by omega) v hv
    rw [← ht] at h1 hm
    rw [show (((o + t.size : Nat) : Int) - 1) = (m : Int) by omega] at h1
    exact h1
  have HCE : Hid (Kd m = (k : Int) ∧ N m = (n : Int) ∧ A m = 0 ∧ B m = 0) := by
    simp only [Tr.size] at hm
    simp only [Sits] at hs
    show _ ∧ _
    obtain rfl : m = o := by omega
    exact hs
  obtain ⟨X, hX⟩ : ∃ X, X = t.txt := ⟨_, rfl⟩
  rw [← hX] at HTX
  obtain ⟨b0, hb0⟩ : ∃ b0, b0 = inM M t := ⟨_, rfl⟩
  have HB0 : Hid (b0 = inM M t) := hb0
  have HTT : Hid (t = (⟨.inl (k, n)⟩ : Tr)) := ht
  rw [← ht]
  have HN : Hid (IsNodes w a len cap Kd N A B) := hI
  have HMM : Hid (OwnS w base g gc M) := hM
  have hmc := hM.caps
  obtain ⟨ml, hml⟩ : ∃ ml, ml = M.length := ⟨_, rfl⟩
  have HML : Hid (ml = M.length) := hml
  have HH : Hid (∀ v, Below w.heap.size w v → Calls Tryz.prog 56 #[.slice (some ⟨g, 0, none⟩) ml gc, .string X] v fun e w' => e = .returned (.bool b0) ∧ w' = v) := fun v hB => by
    have h1 := hasM_any base g gc M X v (HMM.out.below hB)
    rw [← HML.out] at h1
    rw [HB0.out, hX]; rw [hX] at h1
    exact h1
  rw [← hml] at hmc ⊢
  obtain ⟨hmc1, hmc2⟩ := hmc
  obtain ⟨hn1, hn2, hn3⟩ := hI
  obtain ⟨b, off, hra, hbs, hcell⟩ := hn3 (by omega)
  obtain ⟨c0, c1, c2, c3⟩ := hcell m hl
  obtain ⟨l0, l1, l2, l3⟩ := HCE.out
  rw [l0] at c0; rw [l1] at c1; rw [l2] at c2; rw [l3] at c3
  have hlI : (m : Int) < (len : Int) := by omega
  have hm0 : (0 : Int) ≤ (m : Int) := by omega
  have hk13 : k = 1 ∨ k = 3 := by have := hfit.1.1; omega
  obtain ⟨q, hq⟩ : ∃ q, q = ((k : Int) == 1) := ⟨_, rfl⟩
  have f1 : ((k : Int) == 1) = q := hq.symm
  have f3 : q = false → ((k : Int) == 3) = true := fun h => by rw [h] at hq; rcases hk13 with e | e <;> subst e <;> simp at hq ⊢
  have HF3 : Hid (q = false → ((k : Int) == 3) = true) := f3
  have HK : Hid (((k : Int) == 2) = false) := by show _ = _; simp; omega
  clear f3 hk hk13 hq
  clear hn3 hcell l0 l1 l2 l3 hs hm hfit hX hb0 ht hM hml
  subst hra
  cases q with
  | true =>
    clear HF3
    go_enter Tryz.func47, Tryz.ntmps47
    go_wp2
    go_ret
    refine ⟨ret_b ?_, (Below.refl _ _).alloc (Nat.le_refl _) _⟩
    rw [HTT.out, mkP, HK.out, Bool.not_false, Bool.or_true]
  | false =>
    have f3 := HF3.out rfl
    clear HF3
    go_enter Tryz.func47, Tryz.ntmps47
    go_wp2
    go_ret
    refine ⟨ret_b ?_, (Below.refl _ _).alloc (Nat.le_refl _) _⟩
    rw [HTT.out, mkP, HK.out, Bool.not_false, Bool.or_true]

set_option maxRecDepth 8000 in
set_option maxHeartbeats 8000000 in
theorem mks_key (n : Nat) (o m : Nat) (hlen : len ≤ 40) (hfit : Fit (⟨.inl (2, n)⟩ : Tr)) (hs : Sits Kd N A B (⟨.inl (2, n)⟩ : Tr) o) (hm : m + 1 = o + ((⟨.inl (2, n)⟩ : Tr)).size) (hl : m < len) : MakesS Kd N A B a len cap base g gc M (⟨.inl (2, n)⟩ : Tr) m := by
  intro w hI hM
  obtain ⟨t, ht⟩ : ∃ t : Tr, t = (⟨.inl (2, n)⟩ : Tr) := ⟨_, rfl⟩
  have HTX : Hid (∀ v, IsNodes v a len cap Kd N A B → Calls Tryz.prog 74 #[.slice a len cap, .int .i64 (m : Int)] v fun e w' => e = .returned (.string t.txt) ∧ Below v.heap.size v w') := fun v hv => by
    have h1 := text_any hlen _ o hfit.1 hs (by omega) v hv
    rw [← ht] at h1 hm
    rw [show (((o + t.size : Nat) : Int) - 1) = (m : Int) by omega] at h1
    exact h1
  have HCE : Hid (Kd m = 2 ∧ N m = (n : Int) ∧ A m = 0 ∧ B m = 0) := by
    simp only [Tr.size] at hm
    simp only [Sits] at hs
    show _ ∧ _
    obtain rfl : m = o := by omega
    exact hs
  obtain ⟨X, hX⟩ : ∃ X, X = t.txt := ⟨_, rfl⟩
  rw [← hX] at HTX
  obtain ⟨b0, hb0⟩ : ∃ b0, b0 = inM M t := ⟨_, rfl⟩
  have HB0 : Hid (b0 = inM M t) := hb0
  have HTT : Hid (t = (⟨.inl (2, n)⟩ : Tr)) := ht
  rw [← ht]
  have HN : Hid (IsNodes w a len cap Kd N A B) := hI
  have HMM : Hid (OwnS w base g gc M) := hM
  have hmc := hM.caps
  obtain ⟨ml, hml⟩ : ∃ ml, ml = M.length := ⟨_, rfl⟩
  have HML : Hid (ml = M.length) := hml
  have HH : Hid (∀ v, Below w.heap.size w v → Calls Tryz.prog 56 #[.slice (some ⟨g, 0, none⟩) ml gc, .string X] v fun e w' => e = .returned (.bool b0) ∧ w' = v) := fun v hB => by
    have h1 := hasM_any base g gc M X v (HMM.out.below hB)
    rw [← HML.out] at h1
    rw [HB0.out, hX]; rw [hX] at h1
    exact h1
  rw [← hml] at hmc ⊢
  obtain ⟨hmc1, hmc2⟩ := hmc
  obtain ⟨hn1, hn2, hn3⟩ := hI
  obtain ⟨b, off, hra, hbs, hcell⟩ := hn3 (by omega)
  obtain ⟨c0, c1, c2, c3⟩ := hcell m hl
  obtain ⟨l0, l1, l2, l3⟩ := HCE.out
  rw [l0] at c0; rw [l1] at c1; rw [l2] at c2; rw [l3] at c3
  have hlI : (m : Int) < (len : Int) := by omega
  have hm0 : (0 : Int) ≤ (m : Int) := by omega
  clear hn3 hcell l0 l1 l2 l3 hs hm hfit hX hb0 ht hM hml
  subst hra
  go_enter Tryz.func47, Tryz.ntmps47
  go_wp2_with fail
  obtain ⟨w1, hw1⟩ : ∃ w1, w1 = w.alloc (.cells #[.int .i64 2, .int .i64 (n : Int), .int .i64 0, .int .i64 0] 113) := ⟨_, rfl⟩
  have HB1 : Hid (Below w.heap.size w w1) := by show Below _ _ _; rw [hw1]; exact (Below.refl _ _).alloc (Nat.le_refl _) _
  have HX1 : Hid (w1.heap[w.heap.size]? = some (.cells #[.int .i64 2, .int .i64 (n : Int), .int .i64 0, .int .i64 0] 113 (0, 0))) := by show _ = _; rw [hw1]; exact heap_alloc_new _ _
  rw [← hw1]
  clear hw1
  refine (HTX.out w1 (HN.out.below HB1.out)).mono ?_
  rintro e w3 ⟨rfl, hB3⟩
  have HB3 : Hid (Below w.heap.size w w3) := HB1.out.trans (hB3.mono HB1.out.size)
  have HX3 : Hid (w3.heap[w.heap.size]? = some (.cells #[.int .i64 2, .int .i64 (n : Int), .int .i64 0, .int .i64 0] 113 (0, 0))) := (hB3.block _ (lt_of_block HX1.out)).trans HX1.out
  clear hB3
  have x0 : w3.cell? ⟨w.heap.size, 0, none⟩ = some (.int .i64 2) := cellN HX3.out
  have x1 : w3.cell? ⟨w.heap.size, 1, none⟩ = some (.int .i64 (n : Int)) := cellN HX3.out
  have x2 : w3.cell? ⟨w.heap.size, 2, none⟩ = some (.int .i64 0) := cellN HX3.out
  have x3 : w3.cell? ⟨w.heap.size, 3, none⟩ = some (.int .i64 0) := cellN HX3.out
  go_wp2_with fail
  refine (HH.out w3 HB3.out).mono ?_
  rintro e w4 ⟨rfl, hw4⟩
  rw [hw4]
  clear hw4 w4
  cases b0 with
  | true =>
    go_wp2
    go_ret
    exact ⟨ret_b (mkP_yes HB0.out.symm).symm, HB3.out⟩
  | false =>
  go_wp2
  go_ret
  refine ⟨ret_b ?_, HB3.out⟩
  rw [HTT.out, mkP, ← HTT.out, ← HB0.out]
  rfl

set_option maxRecDepth 8000 in
set_option maxHeartbeats 8000000 in
theorem mks_hash (u : Tr) (mu : Nat) (o m : Nat) (hlen : len ≤ 40) (hfit : Fit (⟨.inr (.inl u)⟩ : Tr)) (hs : Sits Kd N A B (⟨.inr (.inl u)⟩ : Tr) o) (hm : m + 1 = o + ((⟨.inr (.inl u)⟩ : Tr)).size) (hl : m < len) (hmu : mu + 1 = o + u.size) (ih1 : MakesS Kd N A B a len cap base g gc M u mu) : MakesS Kd N A B a len cap base g gc M (⟨.inr (.inl u)⟩ : Tr) m := by
  intro w hI hM
  obtain ⟨t, ht⟩ : ∃ t : Tr, t = (⟨.inr (.inl u)⟩ : Tr) := ⟨_, rfl⟩
  have HTX : Hid (∀ v, IsNodes v a len cap Kd N A B → Calls Tryz.prog 74 #[.slice a len cap, .int .i64 (m : Int)] v fun e w' => e = .returned (.string t.txt) ∧ Below v.heap.size v w') := fun v hv => by
    have h1 := text_any hlen _ o hfit.1 hs (by omega) v hv
    rw [← ht] at h1 hm
    rw [show (((o + t.size : Nat) : Int) - 1) = (m : Int) by omega] at h1
    exact h1
  have HCE : Hid (Kd m = 4 ∧ N m = 0 ∧ A m = (mu : Int) ∧ B m = 0) := by
    simp only [Tr.size] at hm
    simp only [Sits] at hs
    show _ ∧ _
    obtain rfl : m = o + u.size := by omega
    have e : (mu : Int) = ((o + u.size : Nat) : Int) - 1 := by omega
    rw [e]; exact hs.2
  obtain ⟨X, hX⟩ : ∃ X, X = t.txt := ⟨_, rfl⟩
  rw [← hX] at HTX
  obtain ⟨b0, hb0⟩ : ∃ b0, b0 = inM M t := ⟨_, rfl⟩
  have HB0 : Hid (b0 = inM M t) := hb0
  have HTT : Hid (t = (⟨.inr (.inl u)⟩ : Tr)) := ht
  rw [← ht]
  have HN : Hid (IsNodes w a len cap Kd N A B) := hI
  have HMM : Hid (OwnS w base g gc M) := hM
  have hmc := hM.caps
  obtain ⟨ml, hml⟩ : ∃ ml, ml = M.length := ⟨_, rfl⟩
  have HML : Hid (ml = M.length) := hml
  have HH : Hid (∀ v, Below w.heap.size w v → Calls Tryz.prog 56 #[.slice (some ⟨g, 0, none⟩) ml gc, .string X] v fun e w' => e = .returned (.bool b0) ∧ w' = v) := fun v hB => by
    have h1 := hasM_any base g gc M X v (HMM.out.below hB)
    rw [← HML.out] at h1
    rw [HB0.out, hX]; rw [hX] at h1
    exact h1
  rw [← hml] at hmc ⊢
  obtain ⟨hmc1, hmc2⟩ := hmc
  obtain ⟨hn1, hn2, hn3⟩ := hI
  obtain ⟨b, off, hra, hbs, hcell⟩ := hn3 (by omega)
  obtain ⟨c0, c1, c2, c3⟩ := hcell m hl
  obtain ⟨l0, l1, l2, l3⟩ := HCE.out
  rw [l0] at c0; rw [l1] at c1; rw [l2] at c2; rw [l3] at c3
  have hlI : (m : Int) < (len : Int) := by omega
  have hm0 : (0 : Int) ≤ (m : Int) := by omega
  have HIH : Hid (∀ v, Below w.heap.size w v → Calls Tryz.prog 47 #[.slice (some ⟨g, 0, none⟩) ml gc, .slice a len cap, .int .i64 (mu : Int)] v fun e w' => e = .returned (.bool (mkP (inM M) u)) ∧ Below v.heap.size v w') := fun v hB => by rw [HML.out]; exact ih1 v (HN.out.below hB) (HMM.out.below hB)
  clear hn3 hcell l0 l1 l2 l3 hs hm hfit hX hb0 ht hM hml
  subst hra
  go_enter Tryz.func47, Tryz.ntmps47
  go_wp2_with fail
  obtain ⟨w1, hw1⟩ : ∃ w1, w1 = w.alloc (.cells #[.int .i64 4, .int .i64 0, .int .i64 (mu : Int), .int .i64 0] 113) := ⟨_, rfl⟩
  have HB1 : Hid (Below w.heap.size w w1) := by show Below _ _ _; rw [hw1]; exact (Below.refl _ _).alloc (Nat.le_refl _) _
  have HX1 : Hid (w1.heap[w.heap.size]? = some (.cells #[.int .i64 4, .int .i64 0, .int .i64 (mu : Int), .int .i64 0] 113 (0, 0))) := by show _ = _; rw [hw1]; exact heap_alloc_new _ _
  rw [← hw1]
  clear hw1
  refine (HTX.out w1 (HN.out.below HB1.out)).mono ?_
  rintro e w3 ⟨rfl, hB3⟩
  have HB3 : Hid (Below w.heap.size w w3) := HB1.out.trans (hB3.mono HB1.out.size)
  have HX3 : Hid (w3.heap[w.heap.size]? = some (.cells #[.int .i64 4, .int .i64 0, .int .i64 (mu : Int), .int .i64 0] 113 (0, 0))) := (hB3.block _ (lt_of_block HX1.out)).trans HX1.out
  clear hB3
  have x0 : w3.cell? ⟨w.heap.size, 0, none⟩ = some (.int .i64 4) := cellN HX3.out
  have x1 : w3.cell? ⟨w.heap.size, 1, none⟩ = some (.int .i64 0) := cellN HX3.out
  have x2 : w3.cell? ⟨w.heap.size, 2, none⟩ = some (.int .i64 (mu : Int)) := cellN HX3.out
  have x3 : w3.cell? ⟨w.heap.size, 3, none⟩ = some (.int .i64 0) := cellN HX3.out
  go_wp2_with fail
  refine (HH.out w3 HB3.out).mono ?_
  rintro e w4 ⟨rfl, hw4⟩
  rw [hw4]
  clear hw4 w4
  cases b0 with
  | true =>
    go_wp2
    go_ret
    exact ⟨ret_b (mkP_yes HB0.out.symm).symm, HB3.out⟩
  | false =>
  go_wp2_with fail
  refine (HIH.out w3 HB3.out).mono ?_
  rintro e w5 ⟨rfl, hB5⟩
  have HB5 : Hid (Below w.heap.size w w5) := HB3.out.trans (hB5.mono HB3.out.size)
  clear hB5
  go_wp2
  go_ret
  refine ⟨ret_b ?_, HB5.out⟩
  rw [HTT.out, mkP, ← HTT.out, ← HB0.out]
  rfl

set_option maxRecDepth 8000 in
set_option maxHeartbeats 8000000 in
theorem mks_pair (u v : Tr) (mu mv : Nat) (o m : Nat) (hlen : len ≤ 40) (hfit : Fit (⟨.inr (.inr (.inl (u, v)))⟩ : Tr)) (hs : Sits Kd N A B (⟨.inr (.inr (.inl (u, v)))⟩ : Tr) o) (hm : m + 1 = o + ((⟨.inr (.inr (.inl (u, v)))⟩ : Tr)).size) (hl : m < len) (hmu : mu + 1 = o + u.size) (hmv : mv + 1 = o + u.size + v.size) (ih1 : MakesS Kd N A B a len cap base g gc M u mu) (ih2 : MakesS Kd N A B a len cap base g gc M v mv) : MakesS Kd N A B a len cap base g gc M (⟨.inr (.inr (.inl (u, v)))⟩ : Tr) m := by
  intro w hI hM
  obtain ⟨t, ht⟩ : ∃ t : Tr, t = (⟨.inr (.inr (.inl (u, v)))⟩ : Tr) := ⟨_, rfl⟩
  have HTX : Hid (∀ v, IsNodes v a len cap Kd N A B → Calls Tryz.prog 74 #[.slice a len cap, .int .i64 (m : Int)] v fun e w' => e = .returned (.string t.txt) ∧ Below v.heap.size v w') := fun v hv => by
    have h1 := text_any hlen _ o hfit.1 hs (by omega) v hv
    rw [← ht] at h1 hm
    rw [show (((o + t.size : Nat) : Int) - 1) = (m : Int) by omega] at h1
    exact h1
  have HCE : Hid (Kd m = 5 ∧ N m = 0 ∧ A m = (mu : Int) ∧ B m = (mv : Int)) := by
    simp only [Tr.size] at hm
    simp only [Sits] at hs
    show _ ∧ _
    obtain rfl : m = o + u.size + v.size := by omega
    have e : (mu : Int) = ((o + u.size : Nat) : Int) - 1 := by omega
    have e2 : (mv : Int) = ((o + u.size + v.size : Nat) : Int) - 1 := by omega
    rw [e, e2]; exact hs.2.2
  obtain ⟨X, hX⟩ : ∃ X, X = t.txt := ⟨_, rfl⟩
  rw [← hX] at HTX
  obtain ⟨b0, hb0⟩ : ∃ b0, b0 = inM M t := ⟨_, rfl⟩
  have HB0 : Hid (b0 = inM M t) := hb0
  have HTT : Hid (t = (⟨.inr (.inr (.inl (u, v)))⟩ : Tr)) := ht
  rw [← ht]
  have HN : Hid (IsNodes w a len cap Kd N A B) := hI
  have HMM : Hid (OwnS w base g gc M) := hM
  have hmc := hM.caps
  obtain ⟨ml, hml⟩ : ∃ ml, ml = M.length := ⟨_, rfl⟩
  have HML : Hid (ml = M.length) := hml
  have HH : Hid (∀ v, Below w.heap.size w v → Calls Tryz.prog 56 #[.slice (some ⟨g, 0, none⟩) ml gc, .string X] v fun e w' => e = .returned (.bool b0) ∧ w' = v) := fun v hB => by
    have h1 := hasM_any base g gc M X v (HMM.out.below hB)
    rw [← HML.out] at h1
    rw [HB0.out, hX]; rw [hX] at h1
    exact h1
  rw [← hml] at hmc ⊢
  obtain ⟨hmc1, hmc2⟩ := hmc
  obtain ⟨hn1, hn2, hn3⟩ := hI
  obtain ⟨b, off, hra, hbs, hcell⟩ := hn3 (by omega)
  obtain ⟨c0, c1, c2, c3⟩ := hcell m hl
  obtain ⟨l0, l1, l2, l3⟩ := HCE.out
  rw [l0] at c0; rw [l1] at c1; rw [l2] at c2; rw [l3] at c3
  have hlI : (m : Int) < (len : Int) := by omega
  have hm0 : (0 : Int) ≤ (m : Int) := by omega
  have HI1 : Hid (∀ vw, Below w.heap.size w vw → Calls Tryz.prog 47 #[.slice (some ⟨g, 0, none⟩) ml gc, .slice a len cap, .int .i64 (mu : Int)] vw fun e w' => e = .returned (.bool (mkP (inM M) u)) ∧ Below vw.heap.size vw w') := fun vw hB => by rw [HML.out]; exact ih1 vw (HN.out.below hB) (HMM.out.below hB)
  have HI2 : Hid (∀ vw, Below w.heap.size w vw → Calls Tryz.prog 47 #[.slice (some ⟨g, 0, none⟩) ml gc, .slice a len cap, .int .i64 (mv : Int)] vw fun e w' => e = .returned (.bool (mkP (inM M) v)) ∧ Below vw.heap.size vw w') := fun vw hB => by rw [HML.out]; exact ih2 vw (HN.out.below hB) (HMM.out.below hB)
  obtain ⟨p1, hp1⟩ : ∃ p1, p1 = mkP (inM M) u := ⟨_, rfl⟩
  obtain ⟨p2, hp2⟩ : ∃ p2, p2 = mkP (inM M) v := ⟨_, rfl⟩
  rw [← hp1] at HI1
  rw [← hp2] at HI2
  have HP : Hid (p1 = mkP (inM M) u ∧ p2 = mkP (inM M) v) := ⟨hp1, hp2⟩
  clear hp1 hp2
  clear hn3 hcell l0 l1 l2 l3 hs hm hfit hX hb0 ht hM hml
  subst hra
  go_enter Tryz.func47, Tryz.ntmps47
  go_wp2_with fail
  obtain ⟨w1, hw1⟩ : ∃ w1, w1 = w.alloc (.cells #[.int .i64 5, .int .i64 0, .int .i64 (mu : Int), .int .i64 (mv : Int)] 113) := ⟨_, rfl⟩
  have HB1 : Hid (Below w.heap.size w w1) := by show Below _ _ _; rw [hw1]; exact (Below.refl _ _).alloc (Nat.le_refl _) _
  have HX1 : Hid (w1.heap[w.heap.size]? = some (.cells #[.int .i64 5, .int .i64 0, .int .i64 (mu : Int), .int .i64 (mv : Int)] 113 (0, 0))) := by show _ = _; rw [hw1]; exact heap_alloc_new _ _
  rw [← hw1]
  clear hw1
  refine (HTX.out w1 (HN.out.below HB1.out)).mono ?_
  rintro e w3 ⟨rfl, hB3⟩
  have HB3 : Hid (Below w.heap.size w w3) := HB1.out.trans (hB3.mono HB1.out.size)
  have HX3 : Hid (w3.heap[w.heap.size]? = some (.cells #[.int .i64 5, .int .i64 0, .int .i64 (mu : Int), .int .i64 (mv : Int)] 113 (0, 0))) := (hB3.block _ (lt_of_block HX1.out)).trans HX1.out
  clear hB3
  have x0 : w3.cell? ⟨w.heap.size, 0, none⟩ = some (.int .i64 5) := cellN HX3.out
  have x1 : w3.cell? ⟨w.heap.size, 1, none⟩ = some (.int .i64 0) := cellN HX3.out
  have x2 : w3.cell? ⟨w.heap.size, 2, none⟩ = some (.int .i64 (mu : Int)) := cellN HX3.out
  have x3 : w3.cell? ⟨w.heap.size, 3, none⟩ = some (.int .i64 (mv : Int)) := cellN HX3.out
  go_wp2_with fail
  refine (HH.out w3 HB3.out).mono ?_
  rintro e w4 ⟨rfl, hw4⟩
  rw [hw4]
  clear hw4 w4
  cases b0 with
  | true =>
    go_wp2
    go_ret
    exact ⟨ret_b (mkP_yes HB0.out.symm).symm, HB3.out⟩
  | false =>
  go_wp2_with fail
  refine (HI1.out w3 HB3.out).mono ?_
  rintro e w5 ⟨rfl, hB5⟩
  have HB5 : Hid (Below w.heap.size w w5) := HB3.out.trans (hB5.mono HB3.out.size)
  have y3 : w5.cell? ⟨w.heap.size, 3, none⟩ = some (.int .i64 (mv : Int)) := (hB5.cell (p := ⟨w.heap.size, 3, none⟩) (cell_lt x3)).trans x3
  clear hB5 x0 x1 x2 x3
  cases p1 with
  | false =>
    go_wp2
    go_ret
    refine ⟨ret_b ?_, HB5.out⟩
    rw [HTT.out, mkP, ← HTT.out, ← HB0.out, ← HP.out.1]
    rfl
  | true =>
  go_wp2_with fail
  refine (HI2.out w5 HB5.out).mono ?_
  rintro e w6 ⟨rfl, hB6⟩
  have HB6 : Hid (Below w.heap.size w w6) := HB5.out.trans (hB6.mono HB5.out.size)
  clear hB6 y3
  go_wp2
  go_ret
  refine ⟨ret_b ?_, HB6.out⟩
  rw [HTT.out, mkP, ← HTT.out, ← HB0.out, ← HP.out.1, ← HP.out.2]
  rfl

set_option maxRecDepth 8000 in
set_option maxHeartbeats 8000000 in
theorem mks_keyed (k n : Nat) (u : Tr) (mu : Nat) (q : Bool) (o m : Nat) (hlen : len ≤ 40) (hfit : Fit (⟨.inr (.inr (.inr (k, n, u)))⟩ : Tr)) (hs : Sits Kd N A B (⟨.inr (.inr (.inr (k, n, u)))⟩ : Tr) o) (hm : m + 1 = o + ((⟨.inr (.inr (.inr (k, n, u)))⟩ : Tr)).size) (hl : m < len) (hmu : mu + 1 = o + u.size) (hq6 : ((k : Int) == 6) = q) (hq7 : ((k : Int) == 7) = !q) (ih1 : MakesS Kd N A B a len cap base g gc M u mu) : MakesS Kd N A B a len cap base g gc M (⟨.inr (.inr (.inr (k, n, u)))⟩ : Tr) m := by
  intro w hI hM
  obtain ⟨t, ht⟩ : ∃ t : Tr, t = (⟨.inr (.inr (.inr (k, n, u)))⟩ : Tr) := ⟨_, rfl⟩
  have HTX : Hid (∀ v, IsNodes v a len cap Kd N A B → Calls Tryz.prog 74 #[.slice a len cap, .int .i64 (m : Int)] v fun e w' => e = .returned (.string t.txt) ∧ Below v.heap.size v w') := fun v hv => by
    have h1 := text_any hlen _ o hfit.1 hs (by omega) v hv
    rw [← ht] at h1 hm
    rw [show (((o + t.size : Nat) : Int) - 1) = (m : Int) by omega] at h1
    exact h1
  have HCE : Hid (Kd m = (k : Int) ∧ N m = (n : Int) ∧ A m = (mu : Int) ∧ B m = 0) := by
    simp only [Tr.size] at hm
    simp only [Sits] at hs
    show _ ∧ _
    obtain rfl : m = o + u.size := by omega
    have e : (mu : Int) = ((o + u.size : Nat) : Int) - 1 := by omega
    rw [e]; exact hs.2
  obtain ⟨X, hX⟩ : ∃ X, X = t.txt := ⟨_, rfl⟩
  rw [← hX] at HTX
  obtain ⟨b0, hb0⟩ : ∃ b0, b0 = inM M t := ⟨_, rfl⟩
  have HB0 : Hid (b0 = inM M t) := hb0
  have HTT : Hid (t = (⟨.inr (.inr (.inr (k, n, u)))⟩ : Tr)) := ht
  rw [← ht]
  have HN : Hid (IsNodes w a len cap Kd N A B) := hI
  have HMM : Hid (OwnS w base g gc M) := hM
  have hmc := hM.caps
  obtain ⟨ml, hml⟩ : ∃ ml, ml = M.length := ⟨_, rfl⟩
  have HML : Hid (ml = M.length) := hml
  have HH : Hid (∀ v, Below w.heap.size w v → Calls Tryz.prog 56 #[.slice (some ⟨g, 0, none⟩) ml gc, .string X] v fun e w' => e = .returned (.bool b0) ∧ w' = v) := fun v hB => by
    have h1 := hasM_any base g gc M X v (HMM.out.below hB)
    rw [← HML.out] at h1
    rw [HB0.out, hX]; rw [hX] at h1
    exact h1
  rw [← hml] at hmc ⊢
  obtain ⟨hmc1, hmc2⟩ := hmc
  obtain ⟨hn1, hn2, hn3⟩ := hI
  obtain ⟨b, off, hra, hbs, hcell⟩ := hn3 (by omega)
  obtain ⟨c0, c1, c2, c3⟩ := hcell m hl
  obtain ⟨l0, l1, l2, l3⟩ := HCE.out
  rw [l0] at c0; rw [l1] at c1; rw [l2] at c2; rw [l3] at c3
  have hlI : (m : Int) < (len : Int) := by omega
  have hm0 : (0 : Int) ≤ (m : Int) := by omega
  have HI1 : Hid (∀ vw, Below w.heap.size w vw → Calls Tryz.prog 47 #[.slice (some ⟨g, 0, none⟩) ml gc, .slice a len cap, .int .i64 (mu : Int)] vw fun e w' => e = .returned (.bool (mkP (inM M) u)) ∧ Below vw.heap.size vw w') := fun vw hB => by rw [HML.out]; exact ih1 vw (HN.out.below hB) (HMM.out.below hB)
  have HFN : Hid (n ≤ 999) := hfit.1.2.1
  have hkk := hfit.1.1
  have f1 : ((k : Int) == 1) = false := by simp; omega
  have f3 : ((k : Int) == 3) = false := by simp; omega
  have f4 : ((k : Int) == 4) = false := by simp; omega
  have f5 : ((k : Int) == 5) = false := by simp; omega
  clear hkk
  have HAD : Hid (∀ v : World, (Op.stringOp .add ⟨#[107]⟩ (decB n)).run Tryz.prog v = .ok (.string (⟨#[107]⟩ ++ decB n)) v) := fun v => add_ok (by have h1 := decB_size n; have e : (ByteArray.mk #[107]).size = 1 := rfl; have h2 := HFN.out; omega) v
  have HKT : Hid ((keyT n).txt = ⟨#[107]⟩ ++ decB n) := by show _ = _; rw [keyT_txt]; rfl
  obtain ⟨kb, hkb⟩ : ∃ kb, kb = inM M (keyT n) := ⟨_, rfl⟩
  have HKB : Hid (kb = inM M (keyT n)) := hkb
  have HHK : Hid (∀ v, Below w.heap.size w v → Calls Tryz.prog 56 #[.slice (some ⟨g, 0, none⟩) ml gc, .string (⟨#[107]⟩ ++ decB n)] v fun e w' => e = .returned (.bool kb) ∧ w' = v) := fun v hB => by
    have h1 := hasM_any base g gc M (keyT n).txt v (HMM.out.below hB)
    rw [← HML.out] at h1
    rw [hkb]
    rw [HKT.out] at h1
    unfold inM
    rw [HKT.out]
    exact h1
  clear hkb
  clear hn3 hcell l0 l1 l2 l3 hs hm hfit hX hb0 ht hM hml
  subst hra
  cases q with
  | false =>
    go_enter Tryz.func47, Tryz.ntmps47
    go_wp2_with fail
    obtain ⟨w1, hw1⟩ : ∃ w1, w1 = w.alloc (.cells #[.int .i64 (k : Int), .int .i64 (n : Int), .int .i64 (mu : Int), .int .i64 0] 113) := ⟨_, rfl⟩
    have HB1 : Hid (Below w.heap.size w w1) := by show Below _ _ _; rw [hw1]; exact (Below.refl _ _).alloc (Nat.le_refl _) _
    have HX1 : Hid (w1.heap[w.heap.size]? = some (.cells #[.int .i64 (k : Int), .int .i64 (n : Int), .int .i64 (mu : Int), .int .i64 0] 113 (0, 0))) := by show _ = _; rw [hw1]; exact heap_alloc_new _ _
    rw [← hw1]
    clear hw1
    refine (HTX.out w1 (HN.out.below HB1.out)).mono ?_
    rintro e w3 ⟨rfl, hB3⟩
    have HB3 : Hid (Below w.heap.size w w3) := HB1.out.trans (hB3.mono HB1.out.size)
    have HX3 : Hid (w3.heap[w.heap.size]? = some (.cells #[.int .i64 (k : Int), .int .i64 (n : Int), .int .i64 (mu : Int), .int .i64 0] 113 (0, 0))) := (hB3.block _ (lt_of_block HX1.out)).trans HX1.out
    clear hB3
    have x0 : w3.cell? ⟨w.heap.size, 0, none⟩ = some (.int .i64 (k : Int)) := cellN HX3.out
    have x1 : w3.cell? ⟨w.heap.size, 1, none⟩ = some (.int .i64 (n : Int)) := cellN HX3.out
    have x2 : w3.cell? ⟨w.heap.size, 2, none⟩ = some (.int .i64 (mu : Int)) := cellN HX3.out
    have x3 : w3.cell? ⟨w.heap.size, 3, none⟩ = some (.int .i64 0) := cellN HX3.out
    go_wp2_with fail
    refine (HH.out w3 HB3.out).mono ?_
    rintro e w4 ⟨rfl, hw4⟩
    rw [hw4]
    clear hw4 w4
    cases b0 with
    | true =>
      go_wp2
      go_ret
      exact ⟨ret_b (mkP_yes HB0.out.symm).symm, HB3.out⟩
    | false =>
    go_wp2_with fail
    refine (l1Dec_any n HFN.out w3).mono ?_
    rintro e w5 ⟨rfl, hB5⟩
    have HB5 : Hid (Below w.heap.size w w5) := HB3.out.trans (hB5.mono HB3.out.size)
    have y2 : w5.cell? ⟨w.heap.size, 2, none⟩ = some (.int .i64 (mu : Int)) := (hB5.cell (p := ⟨w.heap.size, 2, none⟩) (cell_lt x2)).trans x2
    clear hB5 x0 x1 x2 x3
    have ad := HAD.out w5
    go_wp2_with fail
    refine (HHK.out w5 HB5.out).mono ?_
    rintro e w6 ⟨rfl, hw6⟩
    rw [hw6]
    clear hw6 w6
    cases kb with
    | false =>
      clear ad y2
      go_wp2
      go_ret
      refine ⟨ret_b ?_, HB5.out⟩
      rw [HTT.out, mkP, ← HTT.out, ← HB0.out, ← HKB.out]
      rfl
    | true =>
    go_wp2_with fail
    refine (HI1.out w5 HB5.out).mono ?_
    rintro e w7 ⟨rfl, hB7⟩
    have HB7 : Hid (Below w.heap.size w w7) := HB5.out.trans (hB7.mono HB5.out.size)
    clear hB7 y2 ad
    go_wp2
    go_ret
    refine ⟨ret_b ?_, HB7.out⟩
    rw [HTT.out, mkP, ← HTT.out, ← HB0.out, ← HKB.out]
    rfl
  | true =>
    go_enter Tryz.func47, Tryz.ntmps47
    go_wp2_with fail
    obtain ⟨w1, hw1⟩ : ∃ w1, w1 = w.alloc (.cells #[.int .i64 (k : Int), .int .i64 (n : Int), .int .i64 (mu : Int), .int .i64 0] 113) := ⟨_, rfl⟩
    have HB1 : Hid (Below w.heap.size w w1) := by show Below _ _ _; rw [hw1]; exact (Below.refl _ _).alloc (Nat.le_refl _) _
    have HX1 : Hid (w1.heap[w.heap.size]? = some (.cells #[.int .i64 (k : Int), .int .i64 (n : Int), .int .i64 (mu : Int), .int .i64 0] 113 (0, 0))) := by show _ = _; rw [hw1]; exact heap_alloc_new _ _
    rw [← hw1]
    clear hw1
    refine (HTX.out w1 (HN.out.below HB1.out)).mono ?_
    rintro e w3 ⟨rfl, hB3⟩
    have HB3 : Hid (Below w.heap.size w w3) := HB1.out.trans (hB3.mono HB1.out.size)
    have HX3 : Hid (w3.heap[w.heap.size]? = some (.cells #[.int .i64 (k : Int), .int .i64 (n : Int), .int .i64 (mu : Int), .int .i64 0] 113 (0, 0))) := (hB3.block _ (lt_of_block HX1.out)).trans HX1.out
    clear hB3
    have x0 : w3.cell? ⟨w.heap.size, 0, none⟩ = some (.int .i64 (k : Int)) := cellN HX3.out
    have x1 : w3.cell? ⟨w.heap.size, 1, none⟩ = some (.int .i64 (n : Int)) := cellN HX3.out
    have x2 : w3.cell? ⟨w.heap.size, 2, none⟩ = some (.int .i64 (mu : Int)) := cellN HX3.out
    have x3 : w3.cell? ⟨w.heap.size, 3, none⟩ = some (.int .i64 0) := cellN HX3.out
    go_wp2_with fail
    refine (HH.out w3 HB3.out).mono ?_
    rintro e w4 ⟨rfl, hw4⟩
    rw [hw4]
    clear hw4 w4
    cases b0 with
    | true =>
      go_wp2
      go_ret
      exact ⟨ret_b (mkP_yes HB0.out.symm).symm, HB3.out⟩
    | false =>
    go_wp2_with fail
    refine (l1Dec_any n HFN.out w3).mono ?_
    rintro e w5 ⟨rfl, hB5⟩
    have HB5 : Hid (Below w.heap.size w w5) := HB3.out.trans (hB5.mono HB3.out.size)
    have y2 : w5.cell? ⟨w.heap.size, 2, none⟩ = some (.int .i64 (mu : Int)) := (hB5.cell (p := ⟨w.heap.size, 2, none⟩) (cell_lt x2)).trans x2
    clear hB5 x0 x1 x2 x3
    have ad := HAD.out w5
    go_wp2_with fail
    refine (HHK.out w5 HB5.out).mono ?_
    rintro e w6 ⟨rfl, hw6⟩
    rw [hw6]
    clear hw6 w6
    cases kb with
    | false =>
      clear ad y2
      go_wp2
      go_ret
      refine ⟨ret_b ?_, HB5.out⟩
      rw [HTT.out, mkP, ← HTT.out, ← HB0.out, ← HKB.out]
      rfl
    | true =>
    go_wp2_with fail
    refine (HI1.out w5 HB5.out).mono ?_
    rintro e w7 ⟨rfl, hB7⟩
    have HB7 : Hid (Below w.heap.size w w7) := HB5.out.trans (hB7.mono HB5.out.size)
    clear hB7 y2 ad
    go_wp2
    go_ret
    refine ⟨ret_b ?_, HB7.out⟩
    rw [HTT.out, mkP, ← HTT.out, ← HB0.out, ← HKB.out]
    rfl

/-- the specification's l2Makes at every right term that sits in nodes -/
theorem l2Makes_any (hlen : len ≤ 40) : ∀ (t : Tr) (o m : Nat), Fit t → Sits Kd N A B t o → m + 1 = o + t.size → m < len → MakesS Kd N A B a len cap base g gc M t m
  | ⟨.inl (k, n)⟩, o, m, hf, hs, hm, hl => by
    by_cases hk : k = 2
    · subst hk; exact mks_key n o m hlen hf hs hm hl
    · exact mks_bare k n o m hlen hf hs hm hl hk
  | ⟨.inr (.inl u)⟩, o, m, hf, hs, hm, hl => by
    have h1 := Tr.size_pos u
    have h2 := hm
    simp only [Tr.size] at h2
    exact mks_hash u (o + u.size - 1) o m hlen hf hs hm hl (by omega) (l2Makes_any hlen u o _ (hf.kid (by simp [Tr.kids])) (by simp only [Sits] at hs; exact hs.1) (by omega) (by omega))
  | ⟨.inr (.inr (.inl (u, v)))⟩, o, m, hf, hs, hm, hl => by
    have h1 := Tr.size_pos u
    have h3 := Tr.size_pos v
    have h2 := hm
    simp only [Tr.size] at h2
    exact mks_pair u v (o + u.size - 1) (o + u.size + v.size - 1) o m hlen hf hs hm hl (by omega) (by omega) (l2Makes_any hlen u o _ (hf.kid (by simp [Tr.kids])) (by simp only [Sits] at hs; exact hs.1) (by omega) (by omega)) (l2Makes_any hlen v (o + u.size) _ (hf.kid (by simp [Tr.kids])) (by simp only [Sits] at hs; exact hs.2.1) (by omega) (by omega))
  | ⟨.inr (.inr (.inr (k, n, u)))⟩, o, m, hf, hs, hm, hl => by
    have h1 := Tr.size_pos u
    have h2 := hm
    simp only [Tr.size] at h2
    have hk := hf.1.1
    exact mks_keyed k n u (o + u.size - 1) ((k : Int) == 6) o m hlen hf hs hm hl (by omega) rfl (by rcases hk with e | e <;> subst e <;> rfl) (l2Makes_any hlen u o _ (hf.kid (by simp [Tr.kids])) (by simp only [Sits] at hs; exact hs.1) (by omega) (by omega))
end
end Go.Proofs.YtpcbhjejpebogaaGreatDoor

namespace Go.Proofs.YtpcbhjejpebogaaGreatDoor
open Go.RowKit Go.Maps
set_option linter.unusedVariables false

/-- can be made of what P holds -/
def MkT (P : Tr → Prop) : Tr → Prop
  | ⟨.inl (k, n)⟩ => P ⟨.inl (k, n)⟩ ∨ k ≠ 2
  | ⟨.inr (.inl u)⟩ => P ⟨.inr (.inl u)⟩ ∨ MkT P u
  | ⟨.inr (.inr (.inl (a, b)))⟩ => P ⟨.inr (.inr (.inl (a, b)))⟩ ∨ (MkT P a ∧ MkT P b)
  | ⟨.inr (.inr (.inr (k, n, a)))⟩ => P ⟨.inr (.inr (.inr (k, n, a)))⟩ ∨ (P (keyT n) ∧ MkT P a)
theorem mkP_iff {p : Tr → Bool} {P : Tr → Prop} (h : ∀ u, p u = true ↔ P u) : ∀ t : Tr, mkP p t = true ↔ MkT P t
  | ⟨.inl (k, n)⟩ => by
    rw [mkP, MkT, Bool.or_eq_true, h]
    have e : (!((k : Int) == 2)) = true ↔ k ≠ 2 := by
      rw [Bool.not_eq_true', beq_eq_false_iff_ne]
      omega
    rw [e]
  | ⟨.inr (.inl u)⟩ => by rw [mkP, MkT, Bool.or_eq_true, h, mkP_iff h u]
  | ⟨.inr (.inr (.inl (a, b)))⟩ => by rw [mkP, MkT, Bool.or_eq_true, h, Bool.and_eq_true, mkP_iff h a, mkP_iff h b]
  | ⟨.inr (.inr (.inr (k, n, a)))⟩ => by rw [mkP, MkT, Bool.or_eq_true, h, Bool.and_eq_true, h, mkP_iff h a]
/-- the term of a text can be made of the known texts -/
def CanT (S : Nat → ByteArray) (len : Nat) (s : ByteArray) : Prop := knownB S len = true ∧ ∃ t, Fit t ∧ t.txt = s ∧ MkT (fun u => OpT S len u.txt.toList) t
theorem CanT.at {S : Nat → ByteArray} {len : Nat} {t : Tr} (hf : Fit t) (hq : knownB S len = true) : CanT S len t.txt ↔ MkT (fun u => OpT S len u.txt.toList) t :=
  ⟨fun ⟨_, u, h1, h2, h3⟩ => by rw [← txt_inj h1 hf (by rw [h2])]; exact h3, fun h => ⟨hq, t, hf, rfl, h⟩⟩
theorem canT_bad {S : Nat → ByteArray} {len : Nat} {s : ByteArray} (h : knownB S len = false ∨ rT s = none) : ¬ CanT S len s := fun ⟨h1, t, h2, h3, _⟩ => by
  rcases h with h | h
  · rw [h] at h1; cases h1
  · rw [← h3, rT_txt h2.1 h2.2.1 h2.2.2] at h; cases h

set_option maxRecDepth 8000 in
set_option maxHeartbeats 4000000 in
theorem implCanMake_any (a : Option Addr) (len cap : Nat) (S : Nat → ByteArray) (s : ByteArray) (w : World) (h : IsStrs w a len cap S) (hS : ∀ i, i < len → (S i).size ≤ 1048576) (hs : s.size ≤ 1048576) (hP : Pow w) :
    Calls Tryz.prog 17 #[.slice a len cap, .string s] w fun e w' => ∃ b, e = .returned (.bool b) ∧ (b = true ↔ CanT S len s) ∧ Below w.heap.size w w' := by
  have HK : Hid (Calls Tryz.prog 33 #[.slice a len cap] w fun e w' => (∃ v, e = .returned (.tuple #[v, .bool (knownB S len)]) ∧ (knownB S len = true → ∃ L, TrL S len L ∧ w'.ownsRow w.heap.size 69 1 v len (L.map Tr.val))) ∧ Below w.heap.size w w') := knownTermsL_any a len cap S w h hS
  have HP : Hid (Pow w) := hP
  have HSS : Hid (s.size ≤ 1048576) := hs
  clear h hP hs
  cases hq : knownB S len with
  | false =>
    rw [hq] at HK
    have HQ : Hid (knownB S len = false) := hq
    clear hq
    go_enter Tryz.func17, Tryz.ntmps17
    go_wp2_with fail
    refine HK.out.mono ?_
    rintro e w1 ⟨⟨v, rfl, _⟩, hB1⟩
    have HB1 : Hid (Below w.heap.size w w1) := hB1
    clear hB1
    go_wp2
    go_ret
    exact ⟨false, rfl, ⟨fun h => (by cases h), fun h => absurd h (canT_bad (.inl HQ.out))⟩, HB1.out⟩
  | true =>
    rw [hq] at HK
    have HQ : Hid (knownB S len = true) := hq
    clear hq
    go_enter Tryz.func17, Tryz.ntmps17
    go_wp2_with fail
    refine HK.out.mono ?_
    rintro e w1 ⟨⟨v, rfl, hL⟩, hB1⟩
    obtain ⟨L, hT, hO⟩ := hL (by simp)
    have HT : Hid (TrL S len L) := hT
    have HB1 : Hid (Below w.heap.size w w1) := hB1
    obtain ⟨ta, tc, rfl, hIT⟩ : ∃ ta tc, v = .slice ta len tc ∧ IsTs w1 ta tc L := by
      have hl : L.length = len := hT.1
      rcases hO.2 with ⟨e1, e2⟩ | ⟨g, c, cur, e, _, hg, h1, h2, _⟩
      · exact ⟨none, 0, by rw [e1, e2], by omega, by decide, fun hp => by omega⟩
      · refine ⟨_, c, e, by omega, h2, fun _ => ⟨g, rfl, lt_of_block hg, fun i t ht => ?_⟩⟩
        have := hO.cells (g := g) (by rw [e]; rfl) i t.val (by rw [List.getElem?_map, ht]; rfl)
        rw [add_at, Nat.zero_add] at this
        exact this
    have hl30 : len ≤ 30 := (known_of HQ.out).1
    have HIT : Hid (IsTs w1 ta tc L) := hIT
    have HL30 : Hid (len ≤ 30) := hl30
    clear hL hT hO hB1 hIT hl30
    cases hrt : rT s with
    | none =>
      have HRT : Hid (rT s = none) := hrt
      go_wp2_with fail
      refine (termOfText_any s w1 HSS.out).mono ?_
      rintro e w2 ⟨rfl, hB2⟩
      rw [hrt]
      dsimp only [tup2]
      have HB2 : Hid (Below w.heap.size w w2) := HB1.out.trans (hB2.mono HB1.out.size)
      clear hB2 hrt
      go_wp2
      go_ret
      exact ⟨false, rfl, ⟨fun h => (by cases h), fun h => absurd h (canT_bad (.inr HRT.out))⟩, HB2.out⟩
    | some v =>
      obtain ⟨t, htv, hfit, htx⟩ := rT_fit hrt
      have HTT : Hid (t.val = v ∧ Fit t ∧ t.txt = s) := ⟨htv, hfit, htx⟩
      obtain ⟨T, u, rfl⟩ := rT_iface hrt
      clear htv hfit htx
      go_wp2_with fail
      refine (termOfText_any s w1 HSS.out).mono ?_
      rintro e w2 ⟨rfl, hB2⟩
      rw [hrt]
      dsimp only [tup2]
      have HB2 : Hid (Below w.heap.size w w2) := HB1.out.trans (hB2.mono HB1.out.size)
      have HI2 : Hid (IsTs w2 ta tc L) := ⟨HIT.out.1, HIT.out.2.1, fun h0 => by
        obtain ⟨g, e, h1, h2⟩ := HIT.out.2.2 h0
        exact ⟨g, e, Nat.lt_of_lt_of_le h1 hB2.size, fun i t ht => (hB2.cell (p := ⟨g, i, none⟩) h1).trans (h2 i t ht)⟩⟩
      clear hB2 hrt
      have HOP : Hid (Calls Tryz.prog 36 #[.slice ta len tc] w2 fun e w' => ∃ E, e = .returned (.map (some w2.heap.size)) ∧ SetOf w' w2.heap.size 4000 E ∧ (∀ x, has E (.string x) = true ↔ ∃ t, Op (fun u => u ∈ L) t ∧ t.txt.toList = x) ∧ Below w2.heap.size w2 w') := by
        have h1 := openedOf_any ta tc L w2 HI2.out (fun t ht => ((HT.out.mem t).1 ht).1) (by rw [HT.out.1]; have := HL30.out; omega) (HP.out.below HB2.out)
        rw [HT.out.1] at h1
        exact h1
      go_wp2_with fail
      refine HOP.out.mono ?_
      rintro e w3 ⟨E, rfl, hSE, hE, hB3⟩
      have HE : Hid (∀ u : Tr, hasE E u = true ↔ OpT S len u.txt.toList) := fun u => by
        show has E (.string u.txt.toList) = true ↔ _
        rw [hE]
        exact exists_congr fun t => and_congr ⟨fun ho => ho.mono fun u hu => (HT.out.mem u).1 hu, fun ho => ho.mono fun u hu => (HT.out.mem u).2 hu⟩ Iff.rfl
      have HB3 : Hid (Below w.heap.size w w3) := HB2.out.trans (hB3.mono HB2.out.size)
      have HC : Hid (Calls Tryz.prog 46 #[.map (some w2.heap.size), .iface T u] w3 fun e w' => e = .returned (.bool (mkP (hasE E) t)) ∧ Below w3.heap.size w3 w') := by
        have h1 := canBeMade_any (B := w2.heap.size) (nn := 4000) (E := E) t HTT.out.2.1 w3 hSE (HP.out.below HB3.out)
        rw [HTT.out.1] at h1
        exact h1
      clear hSE hE hB3 HOP HK
      go_wp2_with fail
      refine HC.out.mono ?_
      rintro e w4 ⟨rfl, hB4⟩
      have HB4 : Hid (Below w.heap.size w w4) := HB3.out.trans (hB4.mono HB3.out.size)
      clear hB4
      go_wp2
      go_ret
      refine ⟨_, rfl, ?_, HB4.out⟩
      rw [mkP_iff HE.out t, ← HTT.out.2.2, CanT.at HTT.out.2.1 HQ.out]

set_option maxRecDepth 8000 in
set_option maxHeartbeats 4000000 in
theorem specCanMake_any (a : Option Addr) (len cap : Nat) (S : Nat → ByteArray) (s : ByteArray) (w : World) (h : IsStrs w a len cap S) (hS : ∀ i, i < len → (S i).size ≤ 1048576) (hs : s.size ≤ 1048576) :
    Calls Tryz.prog 18 #[.slice a len cap, .string s] w fun e w' => ∃ b, e = .returned (.bool b) ∧ (b = true ↔ CanT S len s) ∧ Below w.heap.size w w' := by
  have HK : Hid (∀ v, Below w.heap.size w v → Calls Tryz.prog 13 #[.slice a len cap] v fun e w' => e = .returned (.bool (knownB S len)) ∧ Below v.heap.size v w') := fun v hB => specKnown_any a len cap S v (h.below hB) hS
  have HI : Hid (IsStrs w a len cap S) := h
  clear h
  cases hrt : rT s with
  | none =>
    have HR : Hid (Calls Tryz.prog 19 #[.string s] w fun e w' => e = .returned (.tuple #[.slice none 0 0, .bool false]) ∧ Below w.heap.size w w') := specRead_no s w hs hrt
    have HRT : Hid (rT s = none) := hrt
    clear hrt hs
    go_enter Tryz.func18, Tryz.ntmps18
    go_wp2_with fail
    refine HR.out.mono ?_
    rintro e w1 ⟨rfl, hB1⟩
    have HB1 : Hid (Below w.heap.size w w1) := hB1
    clear hB1
    obtain ⟨q, hq⟩ : ∃ q, q = knownB S len := ⟨_, rfl⟩
    rw [← hq] at HK
    go_wp2_with fail
    refine (HK.out w1 HB1.out).mono ?_
    rintro e w2 ⟨rfl, hB2⟩
    have HB2 : Hid (Below w.heap.size w w2) := HB1.out.trans (hB2.mono HB1.out.size)
    clear hB2 hq
    cases q with
    | false =>
      go_wp2
      go_ret
      exact ⟨false, rfl, ⟨fun h => (by cases h), fun h => absurd h (canT_bad (.inr HRT.out))⟩, HB2.out⟩
    | true =>
      go_wp2
      go_ret
      exact ⟨false, rfl, ⟨fun h => (by cases h), fun h => absurd h (canT_bad (.inr HRT.out))⟩, HB2.out⟩
  | some v =>
    obtain ⟨t, htv, hfit, htx⟩ := rT_fit hrt
    have hR := readFit t hfit w
    rw [htx] at hR
    obtain ⟨z, hz⟩ : ∃ z, z = t.size := ⟨_, rfl⟩
    rw [← hz] at hR
    have HR : Hid (Calls Tryz.prog 19 #[.string s] w fun e w' => ∃ a cap, e = .returned (.tuple #[.slice a z cap, .bool true]) ∧ IsNodes w' a z cap (ndK (t.flat 0)) (ndN (t.flat 0)) (ndA (t.flat 0)) (ndB (t.flat 0)) ∧ Below w.heap.size w w') := hR
    have hz1 : 1 ≤ z := by rw [hz]; exact Tr.size_pos t
    have hz2 : z ≤ 40 := by rw [hz]; exact hfit.2.1
    obtain ⟨m, hm⟩ : ∃ m, m = z - 1 := ⟨_, rfl⟩
    have hmI : (z : Int) - 1 = (m : Int) := by omega
    have hmw : IntKind.i64.wrap ((z : Int) - 1) = (m : Int) := by rw [IntKind.wrap_i64]; omega
    have HTT : Hid (Fit t ∧ t.txt = s ∧ z = t.size ∧ m + 1 = 0 + t.size ∧ m < z ∧ z ≤ 40) := ⟨hfit, htx, hz, by omega, by omega, hz2⟩
    have hmz : m < z := by omega
    have hmzI : (m : Int) < (z : Int) := by omega
    have hm0 : (0 : Int) ≤ (m : Int) := by omega
    clear hrt hs htv hfit htx hR hz hm
    obtain ⟨q, hq⟩ : ∃ q, q = knownB S len := ⟨_, rfl⟩
    have HQ : Hid (q = knownB S len) := hq
    rw [← hq] at HK
    clear hq
    go_enter Tryz.func18, Tryz.ntmps18
    go_wp2_with fail
    refine HR.out.mono ?_
    rintro e w1 ⟨ra, rc, rfl, hN, hB1⟩
    have HB1 : Hid (Below w.heap.size w w1) := hB1
    have HN : Hid (IsNodes w1 ra z rc (ndK (t.flat 0)) (ndN (t.flat 0)) (ndA (t.flat 0)) (ndB (t.flat 0))) := hN
    clear hB1 hN
    go_wp2_with fail
    refine (HK.out w1 HB1.out).mono ?_
    rintro e w2 ⟨rfl, hB2⟩
    have HB2 : Hid (Below w.heap.size w w2) := HB1.out.trans (hB2.mono HB1.out.size)
    have HN2 : Hid (IsNodes w2 ra z rc (ndK (t.flat 0)) (ndN (t.flat 0)) (ndA (t.flat 0)) (ndB (t.flat 0))) := HN.out.below hB2
    clear hB2
    cases q with
    | false =>
      go_wp2
      go_ret
      exact ⟨false, rfl, ⟨fun h => (by cases h), fun h => absurd h (canT_bad (.inl HQ.out.symm))⟩, HB2.out⟩
    | true =>
      have HO : Hid (Calls Tryz.prog 42 #[.slice a len cap] w2 fun e w' => ∃ go oc L, e = .returned (.slice (some ⟨go, 0, none⟩) L.length oc) ∧ OwnS w' w2.heap.size go oc L ∧ Up L ∧ (∀ x, x ∈ L ↔ OpT S len x) ∧ Below w2.heap.size w2 w') := l2Opened_any S len a cap w2 (HI.out.below HB2.out) (known_w HQ.out.symm)
      go_wp2_with fail
      refine HO.out.mono ?_
      rintro e w3 ⟨go, oc, L, rfl, ho, hU, hM, hB3⟩
      have HB3 : Hid (Below w.heap.size w w3) := HB2.out.trans (hB3.mono HB2.out.size)
      have HE : Hid (∀ u : Tr, inM L u = true ↔ OpT S len u.txt.toList) := fun u => by unfold inM; rw [decide_eq_true_eq]; exact hM _
      have HC : Hid (Calls Tryz.prog 47 #[.slice (some ⟨go, 0, none⟩) L.length oc, .slice ra z rc, .int .i64 (m : Int)] w3 fun e w' => e = .returned (.bool (mkP (inM L) t)) ∧ Below w3.heap.size w3 w') :=
        l2Makes_any HTT.out.2.2.2.2.2 t 0 m HTT.out.1 (sits_nodes t) HTT.out.2.2.2.1 HTT.out.2.2.2.2.1 w3 (HN2.out.below hB3) ho
      have hcp := ho.caps
      obtain ⟨ml, hml⟩ : ∃ ml, ml = L.length := ⟨_, rfl⟩
      rw [← hml] at HC hcp ⊢
      obtain ⟨hcp1, hcp2⟩ := hcp
      clear ho hU hM hB3 HO hml
      go_wp2_with fail
      refine HC.out.mono ?_
      rintro e w4 ⟨rfl, hB4⟩
      have HB4 : Hid (Below w.heap.size w w4) := HB3.out.trans (hB4.mono HB3.out.size)
      clear hB4
      go_wp2
      go_ret
      refine ⟨_, rfl, ?_, HB4.out⟩
      rw [mkP_iff HE.out t, ← HTT.out.2.1, CanT.at HTT.out.1 HQ.out.symm]

end Go.Proofs.YtpcbhjejpebogaaGreatDoor
