/-
  A key that stands in no drawn term: it can not be made, nor what is sealed by it; with it, it can. No condition.
-/
import Derived.Test.YtpcbhjejpebogaaDoorDqP
import Derived.Test.YtpcbhjejpebogaaDoorDqK
namespace Go.Proofs.YtpcbhjejpebogaaDoor
open Go.RowKit Go.Maps
set_option linter.unusedVariables false

def seI : Tr := keyT 501
def seB : Tr := pairT seI ⟨.inl (1, 3)⟩
def seE : Tr := sealT 500 seB
theorem seK_txt : (keyT 500).txt = ⟨#[107, 53, 48, 48]⟩ := by unfold keyT; rw [Tr.txt]; decide +kernel
theorem seI_txt : seI.txt = ⟨#[107, 53, 48, 49]⟩ := by unfold seI keyT; rw [Tr.txt]; decide +kernel
theorem seE_txt : seE.txt = ⟨#[101, 40, 107, 53, 48, 48, 44, 112, 40, 107, 53, 48, 49, 44, 97, 51, 41, 41]⟩ := by unfold seE seB seI sealT pairT keyT; rw [Tr.txt, Tr.txt, Tr.txt, Tr.txt]; decide +kernel
theorem seI_fit : Fit seI := fitKey (by omega)
theorem seE_fit : Fit seE := by
  refine ⟨?_, ?_, ?_⟩
  · unfold seE seB seI sealT pairT keyT
    simp [Tr.Ok]
  · unfold seE seB seI sealT pairT keyT
    simp [Tr.size]
  · unfold seE seB seI sealT pairT keyT
    simp [Tr.deep]
theorem low_shut : Shut LowT := by
  refine ⟨fun t u h => ?_, fun n t h => ?_, fun n t h _ => ?_⟩
  · unfold pairT at h; rw [LowT] at h; exact h
  · unfold signT at h; rw [LowT] at h; exact h.2.2
  · unfold sealT at h; rw [LowT] at h; exact h.2.2
theorem low_key {n : Nat} (h : LowT (keyT n)) : n ≤ 3 := by unfold keyT at h; rw [LowT] at h; exact h.2
theorem kn_low {L : List (List UInt8)} (h : KLow L) {u : Tr} (hu : Kn (atL L) L.length u) : LowT u := by
  obtain ⟨hf, hm⟩ := (kn_list L u).1 hu
  obtain ⟨t, ht, e⟩ := h _ hm
  rw [← txt_inj (ht.fit (by omega)) hf e]
  exact ht.1
theorem secret_no {L : List (List UInt8)} (h : KLow L) (hq : knownB (atL L) L.length = true) : ¬ CanT (atL L) L.length (keyT 500).txt := fun hc => by
  have h1 := MkT.key.1 ((CanT.mk (fitKey (by omega)) hq).1 hc)
  have h2 := h1 LowT (fun u hu => kn_low h hu) low_shut
  have := low_key h2
  omega
def LowE (u : Tr) : Prop := LowT u ∨ u = seE
theorem lowE_shut : Shut LowE := by
  refine ⟨fun t u h => ?_, fun n t h => ?_, fun n t h hk => ?_⟩
  · rcases h with h | h
    · exact ⟨.inl (low_shut.pair t u h).1, .inl (low_shut.pair t u h).2⟩
    · unfold pairT seE sealT at h; simp at h
  · rcases h with h | h
    · exact .inl (low_shut.sign n t h)
    · unfold signT seE sealT at h; simp at h
  · rcases h with h | h
    · unfold sealT at h; rw [LowT] at h; exact .inl h.2.2
    · have hn : n = 500 := by unfold sealT seE sealT at h; simp at h; exact h.1
      subst hn
      rcases hk with hk | hk
      · have := low_key hk; omega
      · unfold keyT seE sealT at hk; simp at hk
theorem secret_m {L : List (List UInt8)} (h : KLow L) (hq : knownB (atL (putL L seE.txt.toList)) (putL L seE.txt.toList).length = true) :
    ¬ CanT (atL (putL L seE.txt.toList)) (putL L seE.txt.toList).length seI.txt ∧ ¬ CanT (atL (putL L seE.txt.toList)) (putL L seE.txt.toList).length (keyT 500).txt ∧ CanT (atL (putL L seE.txt.toList)) (putL L seE.txt.toList).length seE.txt := by
  have hop : ∀ n, 3 < n → ¬ Op (Kn (atL (putL L seE.txt.toList)) (putL L seE.txt.toList).length) (keyT n) := fun n hn ho => by
    have h2 := ho LowE (fun u hu => by
      rcases (kn_put L seE.txt u).1 hu with h3 | ⟨h3, h4⟩
      · exact .inl (kn_low h h3)
      · exact .inr (txt_inj h3 seE_fit (by rw [h4]))) lowE_shut
    rcases h2 with h3 | h3
    · have := low_key h3; omega
    · unfold keyT seE sealT at h3; simp at h3
  refine ⟨fun hc => ?_, fun hc => ?_, ?_⟩
  · exact hop 501 (by omega) (MkT.key.1 ((CanT.mk seI_fit hq).1 hc))
  · exact hop 500 (by omega) (MkT.key.1 ((CanT.mk (fitKey (by omega)) hq).1 hc))
  · exact (CanT.mk seE_fit hq).2 (.base (.base ((kn_put L seE.txt seE).2 (.inr ⟨seE_fit, rfl⟩))))
theorem secret_n {L : List (List UInt8)} (hq : knownB (atL (putL (putL L seE.txt.toList) (keyT 500).txt.toList)) (putL (putL L seE.txt.toList) (keyT 500).txt.toList).length = true) :
    CanT (atL (putL (putL L seE.txt.toList) (keyT 500).txt.toList)) (putL (putL L seE.txt.toList) (keyT 500).txt.toList).length seI.txt := by
  refine (CanT.mk seI_fit hq).2 (.base ?_)
  have hK := Op.shut (Kn (atL (putL (putL L seE.txt.toList) (keyT 500).txt.toList)) (putL (putL L seE.txt.toList) (keyT 500).txt.toList).length)
  have h1 : Op (Kn (atL (putL (putL L seE.txt.toList) (keyT 500).txt.toList)) (putL (putL L seE.txt.toList) (keyT 500).txt.toList).length) (keyT 500) := .base ((kn_put _ _ _).2 (.inr ⟨fitKey (by omega), rfl⟩))
  have h2 : Op (Kn (atL (putL (putL L seE.txt.toList) (keyT 500).txt.toList)) (putL (putL L seE.txt.toList) (keyT 500).txt.toList).length) seE := .base ((kn_put _ _ _).2 (.inl ((kn_put _ _ _).2 (.inr ⟨seE_fit, rfl⟩))))
  exact (hK.pair seI _ (hK.sealK 500 seB h2 h1)).1
/-- learned: room, and what is there -/
theorem KLow.room {L : List (List UInt8)} (hl : L.length ≤ 8) (hq : knownB (atL L) L.length = true) {t : Tr} (hf : Fit t) : lrB (atL L) L.length t.txt = true := lr_room hq (by omega) hf
end Go.Proofs.YtpcbhjejpebogaaDoor
