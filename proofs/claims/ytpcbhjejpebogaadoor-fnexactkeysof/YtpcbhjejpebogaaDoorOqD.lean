/-
  The specification's l2Makes: whether a term can be made of what is opened. No condition but that the nodes and the list read.
-/
import Derived.Test.YtpcbhjejpebogaaDoorOqCa
import Derived.Test.YtpcbhjejpebogaaDoorTgS
namespace Go.Proofs.YtpcbhjejpebogaaDoor
open Go.RowKit Go.Maps
set_option linter.unusedVariables false

def inM (M : List (List UInt8)) (t : Tr) : Bool := decide (t.txt.toList ∈ M)
section
variable {Kd N A B : Nat → Int} {a : Option Addr} {len cap base g gc : Nat} {M : List (List UInt8)}
/-- the specification's answer at the node m -/
def MakesS (Kd N A B : Nat → Int) (a : Option Addr) (len cap base g gc : Nat) (M : List (List UInt8)) (t : Tr) (m : Nat) : Prop := ∀ w : World, IsNodes w a len cap Kd N A B → OwnS w base g gc M → Calls Tryd.prog 40 #[.slice (some ⟨g, 0, none⟩) M.length gc, .slice a len cap, .int .i64 (m : Int)] w fun e w' => e = .returned (.bool (mkP (inM M) t)) ∧ Below w.heap.size w w'

set_option maxRecDepth 8000 in
set_option maxHeartbeats 8000000 in
theorem mks_bare (k n : Nat) (o m : Nat) (hlen : len ≤ 40) (hfit : Fit (⟨.inl (k, n)⟩ : Tr)) (hs : Sits Kd N A B (⟨.inl (k, n)⟩ : Tr) o) (hm : m + 1 = o + ((⟨.inl (k, n)⟩ : Tr)).size) (hl : m < len) (hk : k ≠ 2) : MakesS Kd N A B a len cap base g gc M (⟨.inl (k, n)⟩ : Tr) m := by
  intro w hI hM
  obtain ⟨t, ht⟩ : ∃ t : Tr, t = (⟨.inl (k, n)⟩ : Tr) := ⟨_, rfl⟩
  have HTX : Hid (∀ v, IsNodes v a len cap Kd N A B → Calls Tryd.prog 73 #[.slice a len cap, .int .i64 (m : Int)] v fun e w' => e = .returned (.string t.txt) ∧ Below v.heap.size v w') := fun v hv => by
    have h1 := text_any hlen _ o hfit.1 hs (by omega) v hv
    rw [← ht] at h1 hm
    rw [show (((o + t.size : Nat) : Int) - 1) = (m : Int) by omega] at h1
    exact h1
  have HCE : Hid (Kd m = (k : Int) ∧ N m = (n : Int) ∧ A m = 0 ∧ B m = 0) := by
    simp only [Tr.size] at hm
    simp only [Sits] at hs
    show _ ∧ _
    obtain rfl : m = o := by omega
    exact hs
  obtain ⟨X, hX⟩ : ∃ X, X = t.txt := ⟨_, rfl⟩
  rw [← hX] at HTX
  obtain ⟨b0, hb0⟩ : ∃ b0, b0 = inM M t := ⟨_, rfl⟩
  have HB0 : Hid (b0 = inM M t) := hb0
  have HTT : Hid (t = (⟨.inl (k, n)⟩ : Tr)) := ht
  rw [← ht]
  have HN : Hid (IsNodes w a len cap Kd N A B) := hI
  have HMM : Hid (OwnS w base g gc M) := hM
  have hmc := hM.caps
  obtain ⟨ml, hml⟩ : ∃ ml, ml = M.length := ⟨_, rfl⟩
  have HML : Hid (ml = M.length) := hml
  have HH : Hid (∀ v, Below w.heap.size w v → Calls Tryd.prog 47 #[.slice (some ⟨g, 0, none⟩) ml gc, .string X] v fun e w' => e = .returned (.bool b0) ∧ w' = v) := fun v hB => by
    have h1 := hasM_any base g gc M X v (HMM.out.below hB)
    rw [← HML.out] at h1
    rw [HB0.out, hX]; rw [hX] at h1
    exact h1
  rw [← hml] at hmc ⊢
  obtain ⟨hmc1, hmc2⟩ := hmc
  obtain ⟨hn1, hn2, hn3⟩ := hI
  obtain ⟨b, off, hra, hbs, hcell⟩ := hn3 (by omega)
  obtain ⟨c0, c1, c2, c3⟩ := hcell m hl
  obtain ⟨l0, l1, l2, l3⟩ := HCE.out
  rw [l0] at c0; rw [l1] at c1; rw [l2] at c2; rw [l3] at c3
  have hlI : (m : Int) < (len : Int) := by omega
  have hm0 : (0 : Int) ≤ (m : Int) := by omega
  have hk13 : k = 1 ∨ k = 3 := by have := hfit.1.1; omega
  obtain ⟨q, hq⟩ : ∃ q, q = ((k : Int) == 1) := ⟨_, rfl⟩
  have f1 : ((k : Int) == 1) = q := hq.symm
  have f3 : q = false → ((k : Int) == 3) = true := fun h => by rw [h] at hq; rcases hk13 with e | e <;> subst e <;> simp at hq ⊢
  have HF3 : Hid (q = false → ((k : Int) == 3) = true) := f3
  have HK : Hid (((k : Int) == 2) = false) := by show _ = _; simp; omega
  clear f3 hk hk13 hq
  clear hn3 hcell l0 l1 l2 l3 hs hm hfit hX hb0 ht hM hml
  subst hra
  cases q with
  | true =>
    clear HF3
    go_enter Tryd.func40, Tryd.ntmps40
    go_wp2
    go_ret
    refine ⟨ret_b ?_, (Below.refl _ _).alloc (Nat.le_refl _) _⟩
    rw [HTT.out, mkP, HK.out, Bool.not_false, Bool.or_true]
  | false =>
    have f3 := HF3.out rfl
    clear HF3
    go_enter Tryd.func40, Tryd.ntmps40
    go_wp2
    go_ret
    refine ⟨ret_b ?_, (Below.refl _ _).alloc (Nat.le_refl _) _⟩
    rw [HTT.out, mkP, HK.out, Bool.not_false, Bool.or_true]

set_option maxRecDepth 8000 in
set_option maxHeartbeats 8000000 in
theorem mks_key (n : Nat) (o m : Nat) (hlen : len ≤ 40) (hfit : Fit (⟨.inl (2, n)⟩ : Tr)) (hs : Sits Kd N A B (⟨.inl (2, n)⟩ : Tr) o) (hm : m + 1 = o + ((⟨.inl (2, n)⟩ : Tr)).size) (hl : m < len) : MakesS Kd N A B a len cap base g gc M (⟨.inl (2, n)⟩ : Tr) m := by
  intro w hI hM
  obtain ⟨t, ht⟩ : ∃ t : Tr, t = (⟨.inl (2, n)⟩ : Tr) := ⟨_, rfl⟩
  have HTX : Hid (∀ v, IsNodes v a len cap Kd N A B → Calls Tryd.prog 73 #[.slice a len cap, .int .i64 (m : Int)] v fun e w' => e = .returned (.string t.txt) ∧ Below v.heap.size v w') := fun v hv => by
    have h1 := text_any hlen _ o hfit.1 hs (by omega) v hv
    rw [← ht] at h1 hm
    rw [show (((o + t.size : Nat) : Int) - 1) = (m : Int) by omega] at h1
    exact h1
  have HCE : Hid (Kd m = 2 ∧ N m = (n : Int) ∧ A m = 0 ∧ B m = 0) := by
    simp only [Tr.size] at hm
    simp only [Sits] at hs
    show _ ∧ _
    obtain rfl : m = o := by omega
    exact hs
  obtain ⟨X, hX⟩ : ∃ X, X = t.txt := ⟨_, rfl⟩
  rw [← hX] at HTX
  obtain ⟨b0, hb0⟩ : ∃ b0, b0 = inM M t := ⟨_, rfl⟩
  have HB0 : Hid (b0 = inM M t) := hb0
  have HTT : Hid (t = (⟨.inl (2, n)⟩ : Tr)) := ht
  rw [← ht]
  have HN : Hid (IsNodes w a len cap Kd N A B) := hI
  have HMM : Hid (OwnS w base g gc M) := hM
  have hmc := hM.caps
  obtain ⟨ml, hml⟩ : ∃ ml, ml = M.length := ⟨_, rfl⟩
  have HML : Hid (ml = M.length) := hml
  have HH : Hid (∀ v, Below w.heap.size w v → Calls Tryd.prog 47 #[.slice (some ⟨g, 0, none⟩) ml gc, .string X] v fun e w' => e = .returned (.bool b0) ∧ w' = v) := fun v hB => by
    have h1 := hasM_any base g gc M X v (HMM.out.below hB)
    rw [← HML.out] at h1
    rw [HB0.out, hX]; rw [hX] at h1
    exact h1
  rw [← hml] at hmc ⊢
  obtain ⟨hmc1, hmc2⟩ := hmc
  obtain ⟨hn1, hn2, hn3⟩ := hI
  obtain ⟨b, off, hra, hbs, hcell⟩ := hn3 (by omega)
  obtain ⟨c0, c1, c2, c3⟩ := hcell m hl
  obtain ⟨l0, l1, l2, l3⟩ := HCE.out
  rw [l0] at c0; rw [l1] at c1; rw [l2] at c2; rw [l3] at c3
  have hlI : (m : Int) < (len : Int) := by omega
  have hm0 : (0 : Int) ≤ (m : Int) := by omega
  clear hn3 hcell l0 l1 l2 l3 hs hm hfit hX hb0 ht hM hml
  subst hra
  go_enter Tryd.func40, Tryd.ntmps40
  go_wp2_with fail
  obtain ⟨w1, hw1⟩ : ∃ w1, w1 = w.alloc (.cells #[.int .i64 2, .int .i64 (n : Int), .int .i64 0, .int .i64 0] 105) := ⟨_, rfl⟩
  have HB1 : Hid (Below w.heap.size w w1) := by show Below _ _ _; rw [hw1]; exact (Below.refl _ _).alloc (Nat.le_refl _) _
  have HX1 : Hid (w1.heap[w.heap.size]? = some (.cells #[.int .i64 2, .int .i64 (n : Int), .int .i64 0, .int .i64 0] 105 (0, 0))) := by show _ = _; rw [hw1]; exact heap_alloc_new _ _
  rw [← hw1]
  clear hw1
  refine (HTX.out w1 (HN.out.below HB1.out)).mono ?_
  rintro e w3 ⟨rfl, hB3⟩
  have HB3 : Hid (Below w.heap.size w w3) := HB1.out.trans (hB3.mono HB1.out.size)
  have HX3 : Hid (w3.heap[w.heap.size]? = some (.cells #[.int .i64 2, .int .i64 (n : Int), .int .i64 0, .int .i64 0] 105 (0, 0))) := (hB3.block _ (lt_of_block HX1.out)).trans HX1.out
  clear hB3
  have x0 : w3.cell? ⟨w.heap.size, 0, none⟩ = some (.int .i64 2) := cellN HX3.out
  have x1 : w3.cell? ⟨w.heap.size, 1, none⟩ = some (.int .i64 (n : Int)) := cellN HX3.out
  have x2 : w3.cell? ⟨w.heap.size, 2, none⟩ = some (.int .i64 0) := cellN HX3.out
  have x3 : w3.cell? ⟨w.heap.size, 3, none⟩ = some (.int .i64 0) := cellN HX3.out
  go_wp2_with fail
  refine (HH.out w3 HB3.out).mono ?_
  rintro e w4 ⟨rfl, hw4⟩
  rw [hw4]
  clear hw4 w4
  cases b0 with
  | true =>
    go_wp2
    go_ret
    exact ⟨ret_b (mkP_yes HB0.out.symm).symm, HB3.out⟩
  | false =>
  go_wp2
  go_ret
  refine ⟨ret_b ?_, HB3.out⟩
  rw [HTT.out, mkP, ← HTT.out, ← HB0.out]
  rfl

set_option maxRecDepth 8000 in
set_option maxHeartbeats 8000000 in
theorem mks_hash (u : Tr) (mu : Nat) (o m : Nat) (hlen : len ≤ 40) (hfit : Fit (⟨.inr (.inl u)⟩ : Tr)) (hs : Sits Kd N A B (⟨.inr (.inl u)⟩ : Tr) o) (hm : m + 1 = o + ((⟨.inr (.inl u)⟩ : Tr)).size) (hl : m < len) (hmu : mu + 1 = o + u.size) (ih1 : MakesS Kd N A B a len cap base g gc M u mu) : MakesS Kd N A B a len cap base g gc M (⟨.inr (.inl u)⟩ : Tr) m := by
  intro w hI hM
  obtain ⟨t, ht⟩ : ∃ t : Tr, t = (⟨.inr (.inl u)⟩ : Tr) := ⟨_, rfl⟩
  have HTX : Hid (∀ v, IsNodes v a len cap Kd N A B → Calls Tryd.prog 73 #[.slice a len cap, .int .i64 (m : Int)] v fun e w' => e = .returned (.string t.txt) ∧ Below v.heap.size v w') := fun v hv => by
    have h1 := text_any hlen _ o hfit.1 hs (by omega) v hv
    rw [← ht] at h1 hm
    rw [show (((o + t.size : Nat) : Int) - 1) = (m : Int) by omega] at h1
    exact h1
  have HCE : Hid (Kd m = 4 ∧ N m = 0 ∧ A m = (mu : Int) ∧ B m = 0) := by
    simp only [Tr.size] at hm
    simp only [Sits] at hs
    show _ ∧ _
    obtain rfl : m = o + u.size := by omega
    have e : (mu : Int) = ((o + u.size : Nat) : Int) - 1 := by omega
    rw [e]; exact hs.2
  obtain ⟨X, hX⟩ : ∃ X, X = t.txt := ⟨_, rfl⟩
  rw [← hX] at HTX
  obtain ⟨b0, hb0⟩ : ∃ b0, b0 = inM M t := ⟨_, rfl⟩
  have HB0 : Hid (b0 = inM M t) := hb0
  have HTT : Hid (t = (⟨.inr (.inl u)⟩ : Tr)) := ht
  rw [← ht]
  have HN : Hid (IsNodes w a len cap Kd N A B) := hI
  have HMM : Hid (OwnS w base g gc M) := hM
  have hmc := hM.caps
  obtain ⟨ml, hml⟩ : ∃ ml, ml = M.length := ⟨_, rfl⟩
  have HML : Hid (ml = M.length) := hml
  have HH : Hid (∀ v, Below w.heap.size w v → Calls Tryd.prog 47 #[.slice (some ⟨g, 0, none⟩) ml gc, .string X] v fun e w' => e = .returned (.bool b0) ∧ w' = v) := fun v hB => by
    have h1 := hasM_any base g gc M X v (HMM.out.below hB)
    rw [← HML.out] at h1
    rw [HB0.out, hX]; rw [hX] at h1
    exact h1
  rw [← hml] at hmc ⊢
  obtain ⟨hmc1, hmc2⟩ := hmc
  obtain ⟨hn1, hn2, hn3⟩ := hI
  obtain ⟨b, off, hra, hbs, hcell⟩ := hn3 (by omega)
  obtain ⟨c0, c1, c2, c3⟩ := hcell m hl
  obtain ⟨l0, l1, l2, l3⟩ := HCE.out
  rw [l0] at c0; rw [l1] at c1; rw [l2] at c2; rw [l3] at c3
  have hlI : (m : Int) < (len : Int) := by omega
  have hm0 : (0 : Int) ≤ (m : Int) := by omega
  have HIH : Hid (∀ v, Below w.heap.size w v → Calls Tryd.prog 40 #[.slice (some ⟨g, 0, none⟩) ml gc, .slice a len cap, .int .i64 (mu : Int)] v fun e w' => e = .returned (.bool (mkP (inM M) u)) ∧ Below v.heap.size v w') := fun v hB => by rw [HML.out]; exact ih1 v (HN.out.below hB) (HMM.out.below hB)
  clear hn3 hcell l0 l1 l2 l3 hs hm hfit hX hb0 ht hM hml
  subst hra
  go_enter Tryd.func40, Tryd.ntmps40
  go_wp2_with fail
  obtain ⟨w1, hw1⟩ : ∃ w1, w1 = w.alloc (.cells #[.int .i64 4, .int .i64 0, .int .i64 (mu : Int), .int .i64 0] 105) := ⟨_, rfl⟩
  have HB1 : Hid (Below w.heap.size w w1) := by show Below _ _ _; rw [hw1]; exact (Below.refl _ _).alloc (Nat.le_refl _) _
  have HX1 : Hid (w1.heap[w.heap.size]? = some (.cells #[.int .i64 4, .int .i64 0, .int .i64 (mu : Int), .int .i64 0] 105 (0, 0))) := by show _ = _; rw [hw1]; exact heap_alloc_new _ _
  rw [← hw1]
  clear hw1
  refine (HTX.out w1 (HN.out.below HB1.out)).mono ?_
  rintro e w3 ⟨rfl, hB3⟩
  have HB3 : Hid (Below w.heap.size w w3) := HB1.out.trans (hB3.mono HB1.out.size)
  have HX3 : Hid (w3.heap[w.heap.size]? = some (.cells #[.int .i64 4, .int .i64 0, .int .i64 (mu : Int), .int .i64 0] 105 (0, 0))) := (hB3.block _ (lt_of_block HX1.out)).trans HX1.out
  clear hB3
  have x0 : w3.cell? ⟨w.heap.size, 0, none⟩ = some (.int .i64 4) := cellN HX3.out
  have x1 : w3.cell? ⟨w.heap.size, 1, none⟩ = some (.int .i64 0) := cellN HX3.out
  have x2 : w3.cell? ⟨w.heap.size, 2, none⟩ = some (.int .i64 (mu : Int)) := cellN HX3.out
  have x3 : w3.cell? ⟨w.heap.size, 3, none⟩ = some (.int .i64 0) := cellN HX3.out
  go_wp2_with fail
  refine (HH.out w3 HB3.out).mono ?_
  rintro e w4 ⟨rfl, hw4⟩
  rw [hw4]
  clear hw4 w4
  cases b0 with
  | true =>
    go_wp2
    go_ret
    exact ⟨ret_b (mkP_yes HB0.out.symm).symm, HB3.out⟩
  | false =>
  go_wp2_with fail
  refine (HIH.out w3 HB3.out).mono ?_
  rintro e w5 ⟨rfl, hB5⟩
  have HB5 : Hid (Below w.heap.size w w5) := HB3.out.trans (hB5.mono HB3.out.size)
  clear hB5
  go_wp2
  go_ret
  refine ⟨ret_b ?_, HB5.out⟩
  rw [HTT.out, mkP, ← HTT.out, ← HB0.out]
  rfl

set_option maxRecDepth 8000 in
set_option maxHeartbeats 8000000 in
theorem mks_pair (u v : Tr) (mu mv : Nat) (o m : Nat) (hlen : len ≤ 40) (hfit : Fit (⟨.inr (.inr (.inl (u, v)))⟩ : Tr)) (hs : Sits Kd N A B (⟨.inr (.inr (.inl (u, v)))⟩ : Tr) o) (hm : m + 1 = o + ((⟨.inr (.inr (.inl (u, v)))⟩ : Tr)).size) (hl : m < len) (hmu : mu + 1 = o + u.size) (hmv : mv + 1 = o + u.size + v.size) (ih1 : MakesS Kd N A B a len cap base g gc M u mu) (ih2 : MakesS Kd N A B a len cap base g gc M v mv) : MakesS Kd N A B a len cap base g gc M (⟨.inr (.inr (.inl (u, v)))⟩ : Tr) m := by
  intro w hI hM
  obtain ⟨t, ht⟩ : ∃ t : Tr, t = (⟨.inr (.inr (.inl (u, v)))⟩ : Tr) := ⟨_, rfl⟩
  have HTX : Hid (∀ v, IsNodes v a len cap Kd N A B → Calls Tryd.prog 73 #[.slice a len cap, .int .i64 (m : Int)] v fun e w' => e = .returned (.string t.txt) ∧ Below v.heap.size v w') := fun v hv => by
    have h1 := text_any hlen _ o hfit.1 hs (by omega) v hv
    rw [← ht] at h1 hm
    rw [show (((o + t.size : Nat) : Int) - 1) = (m : Int) by omega] at h1
    exact h1
  have HCE : Hid (Kd m = 5 ∧ N m = 0 ∧ A m = (mu : Int) ∧ B m = (mv : Int)) := by
    simp only [Tr.size] at hm
    simp only [Sits] at hs
    show _ ∧ _
    obtain rfl : m = o + u.size + v.size := by omega
    have e : (mu : Int) = ((o + u.size : Nat) : Int) - 1 := by omega
    have e2 : (mv : Int) = ((o + u.size + v.size : Nat) : Int) - 1 := by omega
    rw [e, e2]; exact hs.2.2
  obtain ⟨X, hX⟩ : ∃ X, X = t.txt := ⟨_, rfl⟩
  rw [← hX] at HTX
  obtain ⟨b0, hb0⟩ : ∃ b0, b0 = inM M t := ⟨_, rfl⟩
  have HB0 : Hid (b0 = inM M t) := hb0
  have HTT : Hid (t = (⟨.inr (.inr (.inl (u, v)))⟩ : Tr)) := ht
  rw [← ht]
  have HN : Hid (IsNodes w a len cap Kd N A B) := hI
  have HMM : Hid (OwnS w base g gc M) := hM
  have hmc := hM.caps
  obtain ⟨ml, hml⟩ : ∃ ml, ml = M.length := ⟨_, rfl⟩
  have HML : Hid (ml = M.length) := hml
  have HH : Hid (∀ v, Below w.heap.size w v → Calls Tryd.prog 47 #[.slice (some ⟨g, 0, none⟩) ml gc, .string X] v fun e w' => e = .returned (.bool b0) ∧ w' = v) := fun v hB => by
    have h1 := hasM_any base g gc M X v (HMM.out.below hB)
    rw [← HML.out] at h1
    rw [HB0.out, hX]; rw [hX] at h1
    exact h1
  rw [← hml] at hmc ⊢
  obtain ⟨hmc1, hmc2⟩ := hmc
  obtain ⟨hn1, hn2, hn3⟩ := hI
  obtain ⟨b, off, hra, hbs, hcell⟩ := hn3 (by omega)
  obtain ⟨c0, c1, c2, c3⟩ := hcell m hl
  obtain ⟨l0, l1, l2, l3⟩ := HCE.out
  rw [l0] at c0; rw [l1] at c1; rw [l2] at c2; rw [l3] at c3
  have hlI : (m : Int) < (len : Int) := by omega
  have hm0 : (0 : Int) ≤ (m : Int) := by omega
  have HI1 : Hid (∀ vw, Below w.heap.size w vw → Calls Tryd.prog 40 #[.slice (some ⟨g, 0, none⟩) ml gc, .slice a len cap, .int .i64 (mu : Int)] vw fun e w' => e = .returned (.bool (mkP (inM M) u)) ∧ Below vw.heap.size vw w') := fun vw hB => by rw [HML.out]; exact ih1 vw (HN.out.below hB) (HMM.out.below hB)
  have HI2 : Hid (∀ vw, Below w.heap.size w vw → Calls Tryd.prog 40 #[.slice (some ⟨g, 0, none⟩) ml gc, .slice a len cap, .int .i64 (mv : Int)] vw fun e w' => e = .returned (.bool (mkP (inM M) v)) ∧ Below vw.heap.size vw w') := fun vw hB => by rw [HML.out]; exact ih2 vw (HN.out.below hB) (HMM.out.below hB)
  obtain ⟨p1, hp1⟩ : ∃ p1, p1 = mkP (inM M) u := ⟨_, rfl⟩
  obtain ⟨p2, hp2⟩ : ∃ p2, p2 = mkP (inM M) v := ⟨_, rfl⟩
  rw [← hp1] at HI1
  rw [← hp2] at HI2
  have HP : Hid (p1 = mkP (inM M) u ∧ p2 = mkP (inM M) v) := ⟨hp1, hp2⟩
  clear hp1 hp2
  clear hn3 hcell l0 l1 l2 l3 hs hm hfit hX hb0 ht hM hml
  subst hra
  go_enter Tryd.func40, Tryd.ntmps40
  go_wp2_with fail
  obtain ⟨w1, hw1⟩ : ∃ w1, w1 = w.alloc (.cells #[.int .i64 5, .int .i64 0, .int .i64 (mu : Int), .int .i64 (mv : Int)] 105) := ⟨_, rfl⟩
  have HB1 : Hid (Below w.heap.size w w1) := by show Below _ _ _; rw [hw1]; exact (Below.refl _ _).alloc (Nat.le_refl _) _
  have HX1 : Hid (w1.heap[w.heap.size]? = some (.cells #[.int .i64 5, .int .i64 0, .int .i64 (mu : Int), .int .i64 (mv : Int)] 105 (0, 0))) := by show _ = _; rw [hw1]; exact heap_alloc_new _ _
  rw [← hw1]
  clear hw1
  refine (HTX.out w1 (HN.out.below HB1.out)).mono ?_
  rintro e w3 ⟨rfl, hB3⟩
  have HB3 : Hid (Below w.heap.size w w3) := HB1.out.trans (hB3.mono HB1.out.size)
  have HX3 : Hid (w3.heap[w.heap.size]? = some (.cells #[.int .i64 5, .int .i64 0, .int .i64 (mu : Int), .int .i64 (mv : Int)] 105 (0, 0))) := (hB3.block _ (lt_of_block HX1.out)).trans HX1.out
  clear hB3
  have x0 : w3.cell? ⟨w.heap.size, 0, none⟩ = some (.int .i64 5) := cellN HX3.out
  have x1 : w3.cell? ⟨w.heap.size, 1, none⟩ = some (.int .i64 0) := cellN HX3.out
  have x2 : w3.cell? ⟨w.heap.size, 2, none⟩ = some (.int .i64 (mu : Int)) := cellN HX3.out
  have x3 : w3.cell? ⟨w.heap.size, 3, none⟩ = some (.int .i64 (mv : Int)) := cellN HX3.out
  go_wp2_with fail
  refine (HH.out w3 HB3.out).mono ?_
  rintro e w4 ⟨rfl, hw4⟩
  rw [hw4]
  clear hw4 w4
  cases b0 with
  | true =>
    go_wp2
    go_ret
    exact ⟨ret_b (mkP_yes HB0.out.symm).symm, HB3.out⟩
  | false =>
  go_wp2_with fail
  refine (HI1.out w3 HB3.out).mono ?_
  rintro e w5 ⟨rfl, hB5⟩
  have HB5 : Hid (Below w.heap.size w w5) := HB3.out.trans (hB5.mono HB3.out.size)
  have y3 : w5.cell? ⟨w.heap.size, 3, none⟩ = some (.int .i64 (mv : Int)) := (hB5.cell (p := ⟨w.heap.size, 3, none⟩) (cell_lt x3)).trans x3
  clear hB5 x0 x1 x2 x3
  cases p1 with
  | false =>
    go_wp2
    go_ret
    refine ⟨ret_b ?_, HB5.out⟩
    rw [HTT.out, mkP, ← HTT.out, ← HB0.out, ← HP.out.1]
    rfl
  | true =>
  go_wp2_with fail
  refine (HI2.out w5 HB5.out).mono ?_
  rintro e w6 ⟨rfl, hB6⟩
  have HB6 : Hid (Below w.heap.size w w6) := HB5.out.trans (hB6.mono HB5.out.size)
  clear hB6 y3
  go_wp2
  go_ret
  refine ⟨ret_b ?_, HB6.out⟩
  rw [HTT.out, mkP, ← HTT.out, ← HB0.out, ← HP.out.1, ← HP.out.2]
  rfl

set_option maxRecDepth 8000 in
set_option maxHeartbeats 8000000 in
theorem mks_keyed (k n : Nat) (u : Tr) (mu : Nat) (q : Bool) (o m : Nat) (hlen : len ≤ 40) (hfit : Fit (⟨.inr (.inr (.inr (k, n, u)))⟩ : Tr)) (hs : Sits Kd N A B (⟨.inr (.inr (.inr (k, n, u)))⟩ : Tr) o) (hm : m + 1 = o + ((⟨.inr (.inr (.inr (k, n, u)))⟩ : Tr)).size) (hl : m < len) (hmu : mu + 1 = o + u.size) (hq6 : ((k : Int) == 6) = q) (hq7 : ((k : Int) == 7) = !q) (ih1 : MakesS Kd N A B a len cap base g gc M u mu) : MakesS Kd N A B a len cap base g gc M (⟨.inr (.inr (.inr (k, n, u)))⟩ : Tr) m := by
  intro w hI hM
  obtain ⟨t, ht⟩ : ∃ t : Tr, t = (⟨.inr (.inr (.inr (k, n, u)))⟩ : Tr) := ⟨_, rfl⟩
  have HTX : Hid (∀ v, IsNodes v a len cap Kd N A B → Calls Tryd.prog 73 #[.slice a len cap, .int .i64 (m : Int)] v fun e w' => e = .returned (.string t.txt) ∧ Below v.heap.size v w') := fun v hv => by
    have h1 := text_any hlen _ o hfit.1 hs (by omega) v hv
    rw [← ht] at h1 hm
    rw [show (((o + t.size : Nat) : Int) - 1) = (m : Int) by omega] at h1
    exact h1
  have HCE : Hid (Kd m = (k : Int) ∧ N m = (n : Int) ∧ A m = (mu : Int) ∧ B m = 0) := by
    simp only [Tr.size] at hm
    simp only [Sits] at hs
    show _ ∧ _
    obtain rfl : m = o + u.size := by omega
    have e : (mu : Int) = ((o + u.size : Nat) : Int) - 1 := by omega
    rw [e]; exact hs.2
  obtain ⟨X, hX⟩ : ∃ X, X = t.txt := ⟨_, rfl⟩
  rw [← hX] at HTX
  obtain ⟨b0, hb0⟩ : ∃ b0, b0 = inM M t := ⟨_, rfl⟩
  have HB0 : Hid (b0 = inM M t) := hb0
  have HTT : Hid (t = (⟨.inr (.inr (.inr (k, n, u)))⟩ : Tr)) := ht
  rw [← ht]
  have HN : Hid (IsNodes w a len cap Kd N A B) := hI
  have HMM : Hid (OwnS w base g gc M) := hM
  have hmc := hM.caps
  obtain ⟨ml, hml⟩ : ∃ ml, ml = M.length := ⟨_, rfl⟩
  have HML : Hid (ml = M.length) := hml
  have HH : Hid (∀ v, Below w.heap.size w v → Calls Tryd.prog 47 #[.slice (some ⟨g, 0, none⟩) ml gc, .string X] v fun e w' => e = .returned (.bool b0) ∧ w' = v) := fun v hB => by
    have h1 := hasM_any base g gc M X v (HMM.out.below hB)
    rw [← HML.out] at h1
    rw [HB0.out, hX]; rw [hX] at h1
    exact h1
  rw [← hml] at hmc ⊢
  obtain ⟨hmc1, hmc2⟩ := hmc
  obtain ⟨hn1, hn2, hn3⟩ := hI
  obtain ⟨b, off, hra, hbs, hcell⟩ := hn3 (by omega)
  obtain ⟨c0, c1, c2, c3⟩ := hcell m hl
  obtain ⟨l0, l1, l2, l3⟩ := HCE.out
  rw [l0] at c0; rw [l1] at c1; rw [l2] at c2; rw [l3] at c3
  have hlI : (m : Int) < (len : Int) := by omega
  have hm0 : (0 : Int) ≤ (m : Int) := by omega
  have HI1 : Hid (∀ vw, Below w.heap.size w vw → Calls Tryd.prog 40 #[.slice (some ⟨g, 0, none⟩) ml gc, .slice a len cap, .int .i64 (mu : Int)] vw fun e w' => e = .returned (.bool (mkP (inM M) u)) ∧ Below vw.heap.size vw w') := fun vw hB => by rw [HML.out]; exact ih1 vw (HN.out.below hB) (HMM.out.below hB)
  have HFN : Hid (n ≤ 999) := hfit.1.2.1
  have hkk := hfit.1.1
  have f1 : ((k : Int) == 1) = false := by simp; omega
  have f3 : ((k : Int) == 3) = false := by simp; omega
  have f4 : ((k : Int) == 4) = false := by simp; omega
  have f5 : ((k : Int) == 5) = false := by simp; omega
  clear hkk
  have HAD : Hid (∀ v : World, (Op.stringOp .add ⟨#[107]⟩ (decB n)).run Tryd.prog v = .ok (.string (⟨#[107]⟩ ++ decB n)) v) := fun v => add_ok (by have h1 := decB_size n; have e : (ByteArray.mk #[107]).size = 1 := rfl; have h2 := HFN.out; omega) v
  have HKT : Hid ((keyT n).txt = ⟨#[107]⟩ ++ decB n) := by show _ = _; rw [keyT_txt]; rfl
  obtain ⟨kb, hkb⟩ : ∃ kb, kb = inM M (keyT n) := ⟨_, rfl⟩
  have HKB : Hid (kb = inM M (keyT n)) := hkb
  have HHK : Hid (∀ v, Below w.heap.size w v → Calls Tryd.prog 47 #[.slice (some ⟨g, 0, none⟩) ml gc, .string (⟨#[107]⟩ ++ decB n)] v fun e w' => e = .returned (.bool kb) ∧ w' = v) := fun v hB => by
    have h1 := hasM_any base g gc M (keyT n).txt v (HMM.out.below hB)
    rw [← HML.out] at h1
    rw [hkb]
    rw [HKT.out] at h1
    unfold inM
    rw [HKT.out]
    exact h1
  clear hkb
  clear hn3 hcell l0 l1 l2 l3 hs hm hfit hX hb0 ht hM hml
  subst hra
  cases q with
  | false =>
    go_enter Tryd.func40, Tryd.ntmps40
    go_wp2_with fail
    obtain ⟨w1, hw1⟩ : ∃ w1, w1 = w.alloc (.cells #[.int .i64 (k : Int), .int .i64 (n : Int), .int .i64 (mu : Int), .int .i64 0] 105) := ⟨_, rfl⟩
    have HB1 : Hid (Below w.heap.size w w1) := by show Below _ _ _; rw [hw1]; exact (Below.refl _ _).alloc (Nat.le_refl _) _
    have HX1 : Hid (w1.heap[w.heap.size]? = some (.cells #[.int .i64 (k : Int), .int .i64 (n : Int), .int .i64 (mu : Int), .int .i64 0] 105 (0, 0))) := by show _ = _; rw [hw1]; exact heap_alloc_new _ _
    rw [← hw1]
    clear hw1
    refine (HTX.out w1 (HN.out.below HB1.out)).mono ?_
    rintro e w3 ⟨rfl, hB3⟩
    have HB3 : Hid (Below w.heap.size w w3) := HB1.out.trans (hB3.mono HB1.out.size)
    have HX3 : Hid (w3.heap[w.heap.size]? = some (.cells #[.int .i64 (k : Int), .int .i64 (n : Int), .int .i64 (mu : Int), .int .i64 0] 105 (0, 0))) := (hB3.block _ (lt_of_block HX1.out)).trans HX1.out
    clear hB3
    have x0 : w3.cell? ⟨w.heap.size, 0, none⟩ = some (.int .i64 (k : Int)) := cellN HX3.out
    have x1 : w3.cell? ⟨w.heap.size, 1, none⟩ = some (.int .i64 (n : Int)) := cellN HX3.out
    have x2 : w3.cell? ⟨w.heap.size, 2, none⟩ = some (.int .i64 (mu : Int)) := cellN HX3.out
    have x3 : w3.cell? ⟨w.heap.size, 3, none⟩ = some (.int .i64 0) := cellN HX3.out
    go_wp2_with fail
    refine (HH.out w3 HB3.out).mono ?_
    rintro e w4 ⟨rfl, hw4⟩
    rw [hw4]
    clear hw4 w4
    cases b0 with
    | true =>
      go_wp2
      go_ret
      exact ⟨ret_b (mkP_yes HB0.out.symm).symm, HB3.out⟩
    | false =>
    go_wp2_with fail
    refine (l1Dec_any n HFN.out w3).mono ?_
    rintro e w5 ⟨rfl, hB5⟩
    have HB5 : Hid (Below w.heap.size w w5) := HB3.out.trans (hB5.mono HB3.out.size)
    have y2 : w5.cell? ⟨w.heap.size, 2, none⟩ = some (.int .i64 (mu : Int)) := (hB5.cell (p := ⟨w.heap.size, 2, none⟩) (cell_lt x2)).trans x2
    clear hB5 x0 x1 x2 x3
    have ad := HAD.out w5
    go_wp2_with fail
    refine (HHK.out w5 HB5.out).mono ?_
    rintro e w6 ⟨rfl, hw6⟩
    rw [hw6]
    clear hw6 w6
    cases kb with
    | false =>
      clear ad y2
      go_wp2
      go_ret
      refine ⟨ret_b ?_, HB5.out⟩
      rw [HTT.out, mkP, ← HTT.out, ← HB0.out, ← HKB.out]
      rfl
    | true =>
    go_wp2_with fail
    refine (HI1.out w5 HB5.out).mono ?_
    rintro e w7 ⟨rfl, hB7⟩
    have HB7 : Hid (Below w.heap.size w w7) := HB5.out.trans (hB7.mono HB5.out.size)
    clear hB7 y2 ad
    go_wp2
    go_ret
    refine ⟨ret_b ?_, HB7.out⟩
    rw [HTT.out, mkP, ← HTT.out, ← HB0.out, ← HKB.out]
    rfl
  | true =>
    go_enter Tryd.func40, Tryd.ntmps40
    go_wp2_with fail
    obtain ⟨w1, hw1⟩ : ∃ w1, w1 = w.alloc (.cells #[.int .i64 (k : Int), .int .i64 (n : Int), .int .i64 (mu : Int), .int .i64 0] 105) := ⟨_, rfl⟩
    have HB1 : Hid (Below w.heap.size w w1) := by show Below _ _ _; rw [hw1]; exact (Below.refl _ _).alloc (Nat.le_refl _) _
    have HX1 : Hid (w1.heap[w.heap.size]? = some (.cells #[.int .i64 (k : Int), .int .i64 (n : Int), .int .i64 (mu : Int), .int .i64 0] 105 (0, 0))) := by show _ = _; rw [hw1]; exact heap_alloc_new _ _
    rw [← hw1]
    clear hw1
    refine (HTX.out w1 (HN.out.below HB1.out)).mono ?_
    rintro e w3 ⟨rfl, hB3⟩
    have HB3 : Hid (Below w.heap.size w w3) := HB1.out.trans (hB3.mono HB1.out.size)
    have HX3 : Hid (w3.heap[w.heap.size]? = some (.cells #[.int .i64 (k : Int), .int .i64 (n : Int), .int .i64 (mu : Int), .int .i64 0] 105 (0, 0))) := (hB3.block _ (lt_of_block HX1.out)).trans HX1.out
    clear hB3
    have x0 : w3.cell? ⟨w.heap.size, 0, none⟩ = some (.int .i64 (k : Int)) := cellN HX3.out
    have x1 : w3.cell? ⟨w.heap.size, 1, none⟩ = some (.int .i64 (n : Int)) := cellN HX3.out
    have x2 : w3.cell? ⟨w.heap.size, 2, none⟩ = some (.int .i64 (mu : Int)) := cellN HX3.out
    have x3 : w3.cell? ⟨w.heap.size, 3, none⟩ = some (.int .i64 0) := cellN HX3.out
    go_wp2_with fail
    refine (HH.out w3 HB3.out).mono ?_
    rintro e w4 ⟨rfl, hw4⟩
    rw [hw4]
    clear hw4 w4
    cases b0 with
    | true =>
      go_wp2
      go_ret
      exact ⟨ret_b (mkP_yes HB0.out.symm).symm, HB3.out⟩
    | false =>
    go_wp2_with fail
    refine (l1Dec_any n HFN.out w3).mono ?_
    rintro e w5 ⟨rfl, hB5⟩
    have HB5 : Hid (Below w.heap.size w w5) := HB3.out.trans (hB5.mono HB3.out.size)
    have y2 : w5.cell? ⟨w.heap.size, 2, none⟩ = some (.int .i64 (mu : Int)) := (hB5.cell (p := ⟨w.heap.size, 2, none⟩) (cell_lt x2)).trans x2
    clear hB5 x0 x1 x2 x3
    have ad := HAD.out w5
    go_wp2_with fail
    refine (HHK.out w5 HB5.out).mono ?_
    rintro e w6 ⟨rfl, hw6⟩
    rw [hw6]
    clear hw6 w6
    cases kb with
    | false =>
      clear ad y2
      go_wp2
      go_ret
      refine ⟨ret_b ?_, HB5.out⟩
      rw [HTT.out, mkP, ← HTT.out, ← HB0.out, ← HKB.out]
      rfl
    | true =>
    go_wp2_with fail
    refine (HI1.out w5 HB5.out).mono ?_
    rintro e w7 ⟨rfl, hB7⟩
    have HB7 : Hid (Below w.heap.size w w7) := HB5.out.trans (hB7.mono HB5.out.size)
    clear hB7 y2 ad
    go_wp2
    go_ret
    refine ⟨ret_b ?_, HB7.out⟩
    rw [HTT.out, mkP, ← HTT.out, ← HB0.out, ← HKB.out]
    rfl

/-- the specification's l2Makes at every right term that sits in nodes -/
theorem l2Makes_any (hlen : len ≤ 40) : ∀ (t : Tr) (o m : Nat), Fit t → Sits Kd N A B t o → m + 1 = o + t.size → m < len → MakesS Kd N A B a len cap base g gc M t m
  | ⟨.inl (k, n)⟩, o, m, hf, hs, hm, hl => by
    by_cases hk : k = 2
    · subst hk; exact mks_key n o m hlen hf hs hm hl
    · exact mks_bare k n o m hlen hf hs hm hl hk
  | ⟨.inr (.inl u)⟩, o, m, hf, hs, hm, hl => by
    have h1 := Tr.size_pos u
    have h2 := hm
    simp only [Tr.size] at h2
    exact mks_hash u (o + u.size - 1) o m hlen hf hs hm hl (by omega) (l2Makes_any hlen u o _ (hf.kid (by simp [Tr.kids])) (by simp only [Sits] at hs; exact hs.1) (by omega) (by omega))
  | ⟨.inr (.inr (.inl (u, v)))⟩, o, m, hf, hs, hm, hl => by
    have h1 := Tr.size_pos u
    have h3 := Tr.size_pos v
    have h2 := hm
    simp only [Tr.size] at h2
    exact mks_pair u v (o + u.size - 1) (o + u.size + v.size - 1) o m hlen hf hs hm hl (by omega) (by omega) (l2Makes_any hlen u o _ (hf.kid (by simp [Tr.kids])) (by simp only [Sits] at hs; exact hs.1) (by omega) (by omega)) (l2Makes_any hlen v (o + u.size) _ (hf.kid (by simp [Tr.kids])) (by simp only [Sits] at hs; exact hs.2.1) (by omega) (by omega))
  | ⟨.inr (.inr (.inr (k, n, u)))⟩, o, m, hf, hs, hm, hl => by
    have h1 := Tr.size_pos u
    have h2 := hm
    simp only [Tr.size] at h2
    have hk := hf.1.1
    exact mks_keyed k n u (o + u.size - 1) ((k : Int) == 6) o m hlen hf hs hm hl (by omega) rfl (by rcases hk with e | e <;> subst e <;> rfl) (l2Makes_any hlen u o _ (hf.kid (by simp [Tr.kids])) (by simp only [Sits] at hs; exact hs.1) (by omega) (by omega))
end
end Go.Proofs.YtpcbhjejpebogaaDoor
