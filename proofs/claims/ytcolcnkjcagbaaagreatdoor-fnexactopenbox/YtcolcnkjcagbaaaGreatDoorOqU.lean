/-
  The terms that stand in some terms: a universe; a text is that of one right term. Plain data alone, no condition.
-/
import Derived.Test.YtcolcnkjcagbaaaGreatDoorOpP
import Derived.Test.YtcolcnkjcagbaaaGreatDoorPrB
namespace Go.Proofs.YtcolcnkjcagbaaaGreatDoor
open Go.RowKit
set_option linter.unusedVariables false

/-- what stands right below -/
def Tr.kids : Tr → List Tr
  | ⟨.inl (_, _)⟩ => []
  | ⟨.inr (.inl t)⟩ => [t]
  | ⟨.inr (.inr (.inl (t, u)))⟩ => [t, u]
  | ⟨.inr (.inr (.inr (_, _, t)))⟩ => [t]
/-- itself and all below -/
def Tr.subs : Tr → List Tr
  | ⟨.inl (k, n)⟩ => [⟨.inl (k, n)⟩]
  | ⟨.inr (.inl t)⟩ => ⟨.inr (.inl t)⟩ :: t.subs
  | ⟨.inr (.inr (.inl (t, u)))⟩ => ⟨.inr (.inr (.inl (t, u)))⟩ :: (t.subs ++ u.subs)
  | ⟨.inr (.inr (.inr (k, n, t)))⟩ => ⟨.inr (.inr (.inr (k, n, t)))⟩ :: t.subs
theorem Tr.subs_self : ∀ t : Tr, t ∈ t.subs
  | ⟨.inl (k, n)⟩ => by simp [Tr.subs]
  | ⟨.inr (.inl t)⟩ => by simp [Tr.subs]
  | ⟨.inr (.inr (.inl (t, u)))⟩ => by simp [Tr.subs]
  | ⟨.inr (.inr (.inr (k, n, t)))⟩ => by simp [Tr.subs]
theorem Tr.subs_len : ∀ t : Tr, t.subs.length = t.size
  | ⟨.inl (k, n)⟩ => by simp [Tr.subs, Tr.size]
  | ⟨.inr (.inl t)⟩ => by simp [Tr.subs, Tr.size, Tr.subs_len t]
  | ⟨.inr (.inr (.inl (t, u)))⟩ => by simp [Tr.subs, Tr.size, Tr.subs_len t, Tr.subs_len u]
  | ⟨.inr (.inr (.inr (k, n, t)))⟩ => by simp [Tr.subs, Tr.size, Tr.subs_len t]
theorem Tr.subs_kid : ∀ (t u v : Tr), u ∈ t.subs → v ∈ u.kids → v ∈ t.subs
  | ⟨.inl (k, n)⟩, u, v, h, hv => by
    simp only [Tr.subs, List.mem_singleton] at h
    subst h
    simp [Tr.kids] at hv
  | ⟨.inr (.inl t)⟩, u, v, h, hv => by
    simp only [Tr.subs, List.mem_cons] at h ⊢
    rcases h with rfl | h
    · simp only [Tr.kids, List.mem_singleton] at hv
      subst hv
      exact .inr (Tr.subs_self _)
    · exact .inr (Tr.subs_kid t u v h hv)
  | ⟨.inr (.inr (.inl (t, s)))⟩, u, v, h, hv => by
    simp only [Tr.subs, List.mem_cons, List.mem_append] at h ⊢
    rcases h with rfl | h | h
    · simp only [Tr.kids, List.mem_cons, List.not_mem_nil, or_false] at hv
      rcases hv with rfl | rfl
      · exact .inr (.inl (Tr.subs_self _))
      · exact .inr (.inr (Tr.subs_self _))
    · exact .inr (.inl (Tr.subs_kid t u v h hv))
    · exact .inr (.inr (Tr.subs_kid s u v h hv))
  | ⟨.inr (.inr (.inr (k, n, t)))⟩, u, v, h, hv => by
    simp only [Tr.subs, List.mem_cons] at h ⊢
    rcases h with rfl | h
    · simp only [Tr.kids, List.mem_singleton] at hv
      subst hv
      exact .inr (Tr.subs_self _)
    · exact .inr (Tr.subs_kid t u v h hv)
/-- a right term, as the readers take it -/
def Fit (t : Tr) : Prop := t.Ok ∧ t.size ≤ 40 ∧ t.deep ≤ 10
theorem Fit.kid : ∀ {t u : Tr}, Fit t → u ∈ t.kids → Fit u
  | ⟨.inl (k, n)⟩, u, h, hu => by simp [Tr.kids] at hu
  | ⟨.inr (.inl t)⟩, u, h, hu => by
    obtain ⟨h1, h2, h3⟩ := h
    simp only [Tr.kids, List.mem_singleton] at hu
    subst hu
    simp only [Tr.size, Tr.deep] at h2 h3
    exact ⟨h1, by omega, by omega⟩
  | ⟨.inr (.inr (.inl (t, s)))⟩, u, h, hu => by
    obtain ⟨h1, h2, h3⟩ := h
    simp only [Tr.size, Tr.deep] at h2 h3
    simp only [Tr.kids, List.mem_cons, List.not_mem_nil, or_false] at hu
    rcases hu with rfl | rfl
    · exact ⟨h1.1, by omega, by omega⟩
    · exact ⟨h1.2, by omega, by omega⟩
  | ⟨.inr (.inr (.inr (k, n, t)))⟩, u, h, hu => by
    obtain ⟨h1, h2, h3⟩ := h
    simp only [Tr.size, Tr.deep] at h2 h3
    simp only [Tr.kids, List.mem_singleton] at hu
    subst hu
    exact ⟨h1.2.2, by omega, by omega⟩
theorem Fit.sub : ∀ {t u : Tr}, Fit t → u ∈ t.subs → Fit u
  | ⟨.inl (k, n)⟩, u, h, hu => by
    simp only [Tr.subs, List.mem_singleton] at hu
    subst hu
    exact h
  | ⟨.inr (.inl t)⟩, u, h, hu => by
    simp only [Tr.subs, List.mem_cons] at hu
    rcases hu with rfl | hu
    · exact h
    · exact Fit.sub (Fit.kid h (by simp [Tr.kids])) hu
  | ⟨.inr (.inr (.inl (t, s)))⟩, u, h, hu => by
    simp only [Tr.subs, List.mem_cons, List.mem_append] at hu
    rcases hu with rfl | hu | hu
    · exact h
    · exact Fit.sub (Fit.kid h (by simp [Tr.kids])) hu
    · exact Fit.sub (Fit.kid h (by simp [Tr.kids])) hu
  | ⟨.inr (.inr (.inr (k, n, t)))⟩, u, h, hu => by
    simp only [Tr.subs, List.mem_cons] at hu
    rcases hu with rfl | hu
    · exact h
    · exact Fit.sub (Fit.kid h (by simp [Tr.kids])) hu
/-- two terms with one value are one -/
theorem val_inj : ∀ (t u : Tr), t.val = u.val → t = u
  | ⟨.inl (k, n)⟩, ⟨.inl (k', n')⟩, h => by
    simp only [Tr.val, Value.iface.injEq, Value.agg.injEq, true_and] at h
    simp at h
    obtain ⟨h1, h2⟩ := h
    obtain rfl : k = k' := by omega
    obtain rfl : n = n' := by omega
    rfl
  | ⟨.inl (k, n)⟩, ⟨.inr (.inl u)⟩, h => by simp [Tr.val] at h
  | ⟨.inl (k, n)⟩, ⟨.inr (.inr (.inl (u, v)))⟩, h => by simp [Tr.val] at h
  | ⟨.inl (k, n)⟩, ⟨.inr (.inr (.inr (a, b, u)))⟩, h => by simp [Tr.val] at h
  | ⟨.inr (.inl t)⟩, ⟨.inl (k, n)⟩, h => by simp [Tr.val] at h
  | ⟨.inr (.inl t)⟩, ⟨.inr (.inl u)⟩, h => by
    simp [Tr.val] at h
    rw [val_inj t u h]
  | ⟨.inr (.inl t)⟩, ⟨.inr (.inr (.inl (u, v)))⟩, h => by simp [Tr.val] at h
  | ⟨.inr (.inl t)⟩, ⟨.inr (.inr (.inr (a, b, u)))⟩, h => by simp [Tr.val] at h
  | ⟨.inr (.inr (.inl (t, s)))⟩, ⟨.inl (k, n)⟩, h => by simp [Tr.val] at h
  | ⟨.inr (.inr (.inl (t, s)))⟩, ⟨.inr (.inl u)⟩, h => by simp [Tr.val] at h
  | ⟨.inr (.inr (.inl (t, s)))⟩, ⟨.inr (.inr (.inl (u, v)))⟩, h => by
    simp [Tr.val] at h
    rw [val_inj t u h.1, val_inj s v h.2]
  | ⟨.inr (.inr (.inl (t, s)))⟩, ⟨.inr (.inr (.inr (a, b, u)))⟩, h => by simp [Tr.val] at h
  | ⟨.inr (.inr (.inr (c, d, t)))⟩, ⟨.inl (k, n)⟩, h => by simp [Tr.val] at h
  | ⟨.inr (.inr (.inr (c, d, t)))⟩, ⟨.inr (.inl u)⟩, h => by simp [Tr.val] at h
  | ⟨.inr (.inr (.inr (c, d, t)))⟩, ⟨.inr (.inr (.inl (u, v)))⟩, h => by simp [Tr.val] at h
  | ⟨.inr (.inr (.inr (c, d, t)))⟩, ⟨.inr (.inr (.inr (a, b, u)))⟩, h => by
    simp [Tr.val] at h
    obtain ⟨h1, h2, h3⟩ := h
    obtain rfl : c = a := by omega
    obtain rfl : d = b := by omega
    rw [val_inj t u h3]
/-- two right terms with one text are one -/
theorem txt_inj {t u : Tr} (ht : Fit t) (hu : Fit u) (h : t.txt.toList = u.txt.toList) : t = u := by
  have e : t.txt = u.txt := by
    rw [ByteArray.toList_eq, ByteArray.toList_eq] at h
    exact ByteArray.ext (Array.ext' h)
  have h1 := rT_txt ht.1 ht.2.1 ht.2.2
  rw [e, rT_txt hu.1 hu.2.1 hu.2.2] at h1
  exact (val_inj _ _ (Option.some.inj h1)).symm

/-- a universe -/
structure Uni (U : List Tr) : Prop where
  fit : ∀ t, t ∈ U → Fit t
  kid : ∀ t, t ∈ U → ∀ u, u ∈ t.kids → u ∈ U
  len : U.length ≤ 4000
def uniOf (L : List Tr) : List Tr := L.flatMap Tr.subs
theorem uni_mem {L : List Tr} {t : Tr} (h : t ∈ L) : t ∈ uniOf L := List.mem_flatMap.2 ⟨t, h, Tr.subs_self t⟩
theorem uniOf_len : ∀ (L : List Tr), (∀ t, t ∈ L → Fit t) → (uniOf L).length ≤ L.length * 40
  | [], _ => by simp [uniOf]
  | t :: L, h => by
    have h1 := uniOf_len L (fun u hu => h u (List.mem_cons_of_mem _ hu))
    have h2 := (h t List.mem_cons_self).2.1
    have e : (uniOf (t :: L)).length = t.size + (uniOf L).length := by
      unfold uniOf
      rw [List.flatMap_cons, List.length_append, Tr.subs_len]
    rw [e, List.length_cons]
    omega
theorem uniOf_is {L : List Tr} (h : ∀ t, t ∈ L → Fit t) (hl : L.length ≤ 100) : Uni (uniOf L) := by
  refine ⟨fun t ht => ?_, fun t ht u hu => ?_, ?_⟩
  · obtain ⟨r, hr, htr⟩ := List.mem_flatMap.1 ht
    exact Fit.sub (h r hr) htr
  · obtain ⟨r, hr, htr⟩ := List.mem_flatMap.1 ht
    exact List.mem_flatMap.2 ⟨r, hr, Tr.subs_kid r t u htr hu⟩
  · have := uniOf_len L h
    omega
theorem Uni.shut {U : List Tr} (h : Uni U) : Shut (fun t => t ∈ U) :=
  ⟨fun t u hp => ⟨h.kid _ hp t (by simp [pairT, Tr.kids]), h.kid _ hp u (by simp [pairT, Tr.kids])⟩, fun n t hs => h.kid _ hs t (by simp [signT, Tr.kids]), fun n t hs _ => h.kid _ hs t (by simp [sealT, Tr.kids])⟩
theorem Op.uni {L : List Tr} (h : ∀ t, t ∈ L → Fit t) (hl : L.length ≤ 100) {t : Tr} (ht : Op (fun u => u ∈ L) t) : t ∈ uniOf L := ht _ (fun u hu => uni_mem hu) (uniOf_is h hl).shut
end Go.Proofs.YtcolcnkjcagbaaaGreatDoor
