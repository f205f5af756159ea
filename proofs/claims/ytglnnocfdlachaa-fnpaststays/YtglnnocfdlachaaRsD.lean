/-
  The specification's step of one epoch: whom it drops. No condition but that the slices read.
-/
import Derived.Test.YtglnnocfdlachaaRsC
import Derived.Test.YtglnnocfdlachaaReg
import Derived.Test.YtglnnocfdlachaaCk2
import Derived.ArgAppend
import Derived.Laws.OwnMore
import Derived.Deep.Cut
namespace Go.Proofs.Ytglnnocfdlachaa
open Go.RowKit
set_option linter.unusedVariables false

theorem isDrop1 {e : Int} {adm : List Int} {x : Ev} (h : (x.a == e) = false) : isDrop e adm x = false := by unfold isDrop; rw [h]; rfl
theorem isDrop2 {e : Int} {adm : List Int} {x : Ev} (h : (x.c == 2) = false) : isDrop e adm x = false := by unfold isDrop; rw [h]; simp
theorem isDrop3 {e : Int} {adm : List Int} {x : Ev} (h1 : (x.a == e) = true) (h2 : (x.c == 2) = true) : isDrop e adm x = hasI adm x.b := by unfold isDrop; rw [h1, h2]; simp
theorem goneTo_step {D : Nat → Ev} {e : Int} {adm : List Int} {k : Nat} {b : Bool} (h : isDrop e adm (D k) = b) : goneTo D e adm (k + 1) = if b = true then withL (goneTo D e adm k) (D k).d else goneTo D e adm k := by rw [← h]; rfl

/-- what is appended to an empty slice without room lies in memory of its own; nothing that was there is written -/
theorem run_cat0 (base g : Nat) (ty : TypeId) (v : Value) (L : List Int) (w : World) (h0 : OwnI w base (.slice (some ⟨g, 0, none⟩) 0 0) []) (base2 : Nat) (h : OwnI w base2 v L) (hl : L.length ≤ 1000) (hb : base ≤ w.heap.size) :
    ∃ v' w', (Builtin.append_ #[39, 39] ty #[.slice (some ⟨g, 0, none⟩) 0 0, v]).run Try.prog w = .ok v' w' ∧ OwnI w' base v' L ∧ Below w.heap.size w w' := by
  obtain ⟨i0, hi, hz0, hz1, hz2⟩ := info_parts infoI
  by_cases hn : L = []
  · subst hn
    rcases h.2 with ⟨rfl, _⟩ | ⟨g2, cap2, cur, rfl, _⟩
    · exact ⟨_, w, run_append_owned_none (P := Try.prog) w base 39 ty 2 i0 1 Try.underlying39 hi _ 0 [] h0, h0, Below.refl _ _⟩
    · have hr := run_append_room_cells (P := Try.prog) w 39 ty 2 i0 Try.underlying39 hi g 0 0 0 ⟨g2, 0, none⟩ 0 cap2 [] (by simp) (fun j u h => by simp at h) (fun u h => by cases h) (Nat.le_refl _) (fun j h => by simp at h) (fun j h => by simp at h)
      exact ⟨_, _, hr, h0, Below.refl _ _⟩
  · obtain ⟨a, cap, rfl, hlc, hcm, hc⟩ := h.rd
    have hpos : 0 < L.length := List.length_pos_iff.2 hn
    obtain ⟨b, off, rfl, hbs, hcell⟩ := hc hpos
    have hnews : ∀ j u, (L.map (.int .i64 ·))[j]? = some u → w.cell? ((⟨b, off, none⟩ : Addr).add j) = some u := by
      intro j u hu
      have hj : j < L.length := by
        have := (List.getElem?_eq_some_iff.1 hu).1
        simpa using this
      have := hcell j hj
      have e : (⟨b, off, none⟩ : Addr).add j = ⟨b, off + j, none⟩ := by simp [Addr.add]
      rw [e, this, ← hu]
      simp [hj]
    obtain ⟨v', w', hr, ho, hgr⟩ := run_append_arg_grows (P := Try.prog) w 39 ty 2 i0 (.int .i64 0) 1 8 Try.underlying39 hi hz0 hz1 hz2 rfl (by decide) ⟨g, 0, none⟩ 0 0 [] rfl (fun j u h => by simp at h) ⟨b, off, none⟩ L.length cap (L.map (.int .i64 ·)) (by simp) hnews (by omega) (by unfold maxLen; omega) (by omega)
    refine ⟨v', w', hr, ?_, ⟨hgr.os, hgr.tape, hgr.output, hgr.size, fun k hk => hgr.block k hk (by simp)⟩⟩
    refine OwnI.base ?_ hb
    unfold OwnI
    rw [Nat.zero_add, List.nil_append] at ho
    exact ho
end Go.Proofs.Ytglnnocfdlachaa
