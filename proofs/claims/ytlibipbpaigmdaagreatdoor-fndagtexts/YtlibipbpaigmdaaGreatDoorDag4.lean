/-
  The specification's ids of a dag. No condition but that the slices read and that the dag is not long.
-/
import Derived.Test.YtlibipbpaigmdaaGreatDoorDag3
import Derived.Laws.AppendOwn
namespace Go.Proofs.YtlibipbpaigmdaaGreatDoor
open Go.RowKit
set_option linter.unusedVariables false

/-- a node's id -/
def Nd.id (d : Nd) : ByteArray := idR d.a d.s d.k d.key d.text d.S d.n

/-- the row owned by v reads as texts -/
theorem strs_of_own {w : World} {base : Nat} {v : Value} {n : Nat} {xs : List Value} {S : Nat → ByteArray} (h : w.ownsRow base 9 1 v n xs) (hx : ∀ i, i < n → xs[i]? = some (.string (S i))) :
    ∃ a cap, v = .slice a n cap ∧ IsStrs w a n cap S := by
  rcases h.2 with ⟨rfl, rfl⟩ | ⟨g, cap, cur, rfl, hb, hg, hnc, hcm, hcs, htake⟩
  · exact ⟨none, 0, rfl, Nat.le_refl _, by omega, fun h => absurd h (Nat.lt_irrefl _)⟩
  · refine ⟨_, cap, rfl, hnc, by unfold maxLen at hcm; omega, fun hp => ⟨g, 0, rfl, (Array.getElem?_eq_some_iff.1 hg).1, fun i hi => ?_⟩⟩
    have := h.cells (g := g) rfl i _ (hx i hi)
    have hadd : (⟨g, 0, none⟩ : Addr).add i = ⟨g, i, none⟩ := by unfold Addr.add; split <;> simp_all
    rw [hadd] at this
    rw [Nat.zero_add]
    exact this

set_option maxHeartbeats 1000000 in
theorem l6All_any (a : Option Addr) (len cap : Nat) (D : Nat → Nd) (w : World) (h : IsNds w a len cap D) (hf : Fine D len) (hl : len ≤ 30) :
    Calls Tryz.prog 84 #[.slice a len cap] w fun e w' => ∃ g gc, e = .returned (.slice g len gc) ∧ IsStrs w' g len gc (fun i => (D i).id) ∧ Below w.heap.size w w' := by
  obtain ⟨hlc, hcm, hc⟩ := h
  obtain ⟨i0, hi, hz0, hz1, hz2⟩ := info_parts info9
  go_enter Tryz.func84, Tryz.ntmps84
  go_wp2
  go_loopw [4, 3] (fun i v wr => ∃ (k : Nat) (xs : List Value), k ≤ len ∧ i = .int .i64 k ∧ wr.ownsRow w.heap.size 9 1 v k xs ∧ Hid (∀ j, j < k → xs[j]? = some (.string (D j).id)) ∧ Below w.heap.size w wr)
    (fun i _ _ => len - (intOf i).toNat)
  case atStart => exact ⟨0, [], Nat.zero_le _, rfl, World.ownsRow_made w #[] 0 (Nat.le_refl _) (by decide) rfl, fun j hj => absurd hj (Nat.not_lt_zero _), (Below.refl _ _).alloc (Nat.le_refl _) _⟩
  case round =>
    obtain ⟨k, xs, hk, rfl, how, HR, hB⟩ := hrel
    have hxl : xs.length = k := by have := how.1; omega
    by_cases hlt : k < len
    · obtain ⟨b, off, rfl, hbs, hcell⟩ := hc (by omega)
      have hltI : (k : Int) < (len : Int) := by omega
      obtain ⟨c0, c1, c2, c3, c4, c5, ci⟩ : NdAt wr b (off + k * 6) (D k) := by
        have n1 := hcell k hlt
        exact ⟨(hB.cell (p := ⟨b, _, none⟩) hbs).trans n1.c0, (hB.cell (p := ⟨b, _, none⟩) hbs).trans n1.c1, (hB.cell (p := ⟨b, _, none⟩) hbs).trans n1.c2, (hB.cell (p := ⟨b, _, none⟩) hbs).trans n1.c3, (hB.cell (p := ⟨b, _, none⟩) hbs).trans n1.c4, (hB.cell (p := ⟨b, _, none⟩) hbs).trans n1.c5, n1.i.below hB⟩
      have HC : Hid (Calls Tryz.prog 58 #[.agg #[.int .i64 (D k).a, .int .i64 (D k).s, .int .i64 (D k).k, .string (D k).key, .string (D k).text, .slice (D k).u (D k).n (D k).cap]] wr fun e w' => e = .returned (.string (D k).id) ∧ Below wr.heap.size wr w') := specIdOf_any _ _ _ _ _ _ _ _ (D k).S wr ci (hf k hlt).2.2 (hf k hlt).1 (hf k hlt).2.1
      have HO := (show Hid _ from how)
      have hc1 : (k + 1 : Nat) ≤ maxLen := by unfold maxLen; omega
      have hc2 : (k + 1) * 16 ≤ 140737488355328 := by omega
      have hso : ∀ x ∈ [Value.string (D k).id], x.oneCell' = true := by simp [Value.oneCell']
      clear hcell hc how ci hf
      go_wp2_with (first
          | (go_at_call 58; refine HC.out.mono ?_; rintro e w2 ⟨rfl, hB2⟩)
          | (at_builtin; refine wpList_append_own _ rfl _ _ 25 rfl w.heap.size 9 i0 (.string ⟨#[]⟩) 1 16 Tryz.underlying25 hi hz0 hz1 hz2 rfl (by decide) _ _ _ rfl ((ownsRow_below HO.out hB2).alloc _) ⟨w2.heap.size, 0, none⟩ 1 1 [.string (D k).id] rfl rfl (World.news_of_block (heap_alloc_new _ _)) hso hc1 hc2 (by have := (hB.trans (hB2.mono hB.size)).size; simp; omega) ?_; intro v' w3 hown hgrow _))
      go_roundw
      case rel =>
        refine ⟨k + 1, _, by omega, by go_num, hown, ?_, ?_⟩
        · intro j hj
          rcases Nat.lt_succ_iff_lt_or_eq.1 hj with h1 | rfl
          · rw [List.getElem?_append_left (by omega)]; exact HR.out j h1
          · rw [List.getElem?_append_right (by omega), hxl, Nat.sub_self]; rfl
        · have hBa := (hB.trans (hB2.mono hB.size)).alloc ((hB.trans (hB2.mono hB.size)).size) (.cells #[.string (D k).id] 9)
          exact hBa.grown hgrow hBa.size (fun x hx => by have := ((ownsRow_below HO.out hB2).lt x hx).1; omega)
      case measure => simp [intOf]; omega
    · have hke : k = len := by omega
      subst hke
      obtain ⟨g, gc, rfl, hS⟩ := strs_of_own how HR.out
      clear how hc hf
      go_wp2
      go_ret
      exact ⟨g, gc, rfl, hS, hB⟩
end Go.Proofs.YtlibipbpaigmdaaGreatDoor
