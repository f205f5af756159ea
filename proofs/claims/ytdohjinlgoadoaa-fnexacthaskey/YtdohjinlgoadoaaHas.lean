/-
  The program's HasKey answers whether the epochs are right and one of them has this key and this member. No condition but that the slices read.
-/
import Derived.Test.YtdohjinlgoadoaaIter
namespace Go.Proofs.Ytdohjinlgoadoaa
open Go.RowKit Go.Shelf
attribute [local go_sem] Oper.semAt_some
set_option linter.unusedVariables false

theorem box_at {W : World} {B : Nat} {v : Value} {t : TypeId} (h : W.heap[B]? = some (.cells #[v] t (0, 0))) : W.cell? ⟨B, 0, none⟩ = some v ∧ W.frozen? ⟨B, 0, none⟩ = false := by
  constructor <;> simp [World.cell?, World.frozen?, h]
theorem box_new (W : World) (v : Value) (t : TypeId) : (W.alloc (.cells #[v] t)).cell? ⟨W.heap.size, 0, none⟩ = some v ∧ (W.alloc (.cells #[v] t)).frozen? ⟨W.heap.size, 0, none⟩ = false :=
  box_at (World.alloc_heap_new W _)
theorem box_alloc {W : World} {a : Addr} {v : Value} (o : Obj) (h : W.cell? a = some v) : (W.alloc o).cell? a = some v := cell_kept h (World.grownBy_alloc W o none) (fun r e => by cases e)
theorem free_alloc {W : World} {a : Addr} {v : Value} (o : Obj) (h : W.cell? a = some v) (hf : W.frozen? a = false) : (W.alloc o).frozen? a = false := (frozen_kept h (World.grownBy_alloc W o none) (fun r e => by cases e)).trans hf

set_option maxRecDepth 100000 in
set_option maxHeartbeats 2000000 in
theorem implHasKey_any (a : Option Addr) (len cap : Nat) (K : Nat → Int) (L : Nat → Nat) (M : Nat → Nat → Int) (m key : Int) (w : World) (h : IsEps w a len cap K L M) :
    Calls Try.prog 11 #[.slice a len cap, .int .i64 m, .int .i64 key] w fun e w' => e = .returned (.bool (hasB K L M len m key)) ∧ Below w.heap.size w w' := by
  refine (callsIn_wide (n := 3)).1 ?_
  have hB3 : Below w.heap.size w (((w.alloc (.cells #[.int .i64 m] 2)).alloc (.cells #[.int .i64 key] 2)).alloc (.cells #[.bool false] 4)) := (((Below.refl _ w).alloc (Nat.le_refl _) _).alloc (by simp) _).alloc (by simp; omega) _
  refine callsIn_of_wp_marks Try.func11 rfl trivial ?_ rfl
  simp only [Try.ntmps11, List.size_toArray, List.length_cons, List.length_nil, Nat.reduceAdd, Nat.reduceSub, Array.replicate_succ, Array.replicate_zero, List.push_toArray, List.append_toArray, List.nil_append, List.cons_append]
  gi_wp2_with fail
  refine ⟨trivial, (callsIn_wide.2 (implEpochsOk_any _ _ _ K L M _ (h.below hB3))).mono ?_⟩
  rintro e w1 ⟨rfl, hB1⟩
  have hBF : Below w.heap.size w w1 := hB3.trans (hB1.mono hB3.size)
  have c0 := box_new w (.int .i64 m) 2
  have c1 := box_new (w.alloc (.cells #[.int .i64 m] 2)) (.int .i64 key) 2
  have c2 := box_new ((w.alloc (.cells #[.int .i64 m] 2)).alloc (.cells #[.int .i64 key] 2)) (.bool false) 4
  simp only [World.size_alloc] at c1 c2
  have cm : w1.cell? ⟨w.heap.size, 0, none⟩ = some (.int .i64 m) := (hB1.cell (p := ⟨w.heap.size, 0, none⟩) (by simp; omega)).trans (box_alloc _ (box_alloc _ c0.1))
  have ck : w1.cell? ⟨w.heap.size + 1, 0, none⟩ = some (.int .i64 key) := (hB1.cell (p := ⟨w.heap.size + 1, 0, none⟩) (by simp)).trans (box_alloc _ c1.1)
  have cr : w1.cell? ⟨w.heap.size + 1 + 1, 0, none⟩ = some (.bool false) := (hB1.cell (p := ⟨w.heap.size + 1 + 1, 0, none⟩) (by simp)).trans c2.1
  have fr : w1.frozen? ⟨w.heap.size + 1 + 1, 0, none⟩ = false := (hB1.frozen (p := ⟨w.heap.size + 1 + 1, 0, none⟩) (by simp)).trans c2.2
  have hw1 : w.heap.size + 3 ≤ w1.heap.size := by have := hB1.size; simpa using this
  have hI1 := h.below hBF
  clear hB1 hB3
  by_cases hep : epsB K L M len = true
  · have hr : Hid (hasB K L M len m key = decide ((m, key) ∈ pairsOf K L M len)) := by
      show _ = _
      unfold hasB
      rw [hep]; simp
    rw [hep]
    clear hep
    gi_wp2_with (refine ⟨trivial, ?_⟩; gi_at_call 17; refine (keysBy_in _ _ _ _ _).mono ?_; rintro e w' ⟨rfl, rfl⟩)
    have hBl := box_new w1 (.slice a len cap) 25
    have hBA : Below w1.heap.size w1 (w1.alloc (.cells #[.slice a len cap] 25)) := (Below.refl _ _).alloc (Nat.le_refl _) _
    have hBW : Below w.heap.size w (w1.alloc (.cells #[.slice a len cap] 25)) := hBF.alloc hBF.size _
    refine wpIn_rangeFunc_ownF rfl (by omega) (gf := 23) (lb := #[.pointer (some ⟨w1.heap.size, 0, none⟩)]) rfl trivial (enters_of Try.func23 (by kernel_rfl) rfl)
      (iter_stops (3 - 1) (by omega) w1.heap.size a len cap K L M _ hBl.1 (hI1.below hBA)) keepsCells_t keepsCells_b (Below.refl _ _) (fun _ => rfl)
      (fun pre W => ((m, key) ∉ pre ∧ W.cell? ⟨w.heap.size, 0, none⟩ = some (.int .i64 m) ∧ W.cell? ⟨w.heap.size + 1, 0, none⟩ = some (.int .i64 key) ∧ W.cell? ⟨w.heap.size + 1 + 1, 0, none⟩ = some (.bool false) ∧ W.frozen? ⟨w.heap.size + 1 + 1, 0, none⟩ = false) ∧ Below w.heap.size w W)
      (fun c pre W => (c = .ret ∧ (m, key) ∈ pre ∧ W.cell? ⟨w.heap.size + 1 + 1, 0, none⟩ = some (.bool true)) ∧ Below w.heap.size w W)
      (OwnFrom.and (Own.from (fun s A B row hs hg hr => ⟨hs.1, cell_kept hs.2.1 hg hr, cell_kept hs.2.2.1 hg hr, cell_kept hs.2.2.2.1 hg hr, (frozen_kept hs.2.2.2.1 hg hr).trans hs.2.2.2.2⟩) _) (ownFrom_below (Nat.le_refl _) (by simp; omega)))
      (fun c => OwnFrom.and (Own.from (fun s A B row hs hg hr => ⟨hs.1, hs.2.1, cell_kept hs.2.2 hg hr⟩) _) (ownFrom_below (Nat.le_refl _) (by simp; omega)))
      ⟨⟨by simp, box_alloc _ cm, box_alloc _ ck, box_alloc _ cr, free_alloc _ cr fr⟩, hBW⟩
      (fun x => { tmps := #[.slice a len cap, .int .i64 m, .int .i64 key, undef, .pointer (some ⟨w.heap.size, 0, none⟩), .pointer (some ⟨w.heap.size + 1, 0, none⟩), .pointer (some ⟨w.heap.size + 1 + 1, 0, none⟩), .int .i64 x.1, .int .i64 x.2, .slice a len cap, .bool true, .bool false, .slice a len cap, .func (.func 23) #[] #[.pointer (some ⟨w1.heap.size, 0, none⟩)], .int .i64 x.1, .int .i64 x.2, undef, undef, undef, undef, undef, undef, undef, undef], defers := [] }) ?assign ?body ?done ?stop
    case assign =>
      intro l x W K hK
      gi_wp2
      exact hK
    case body =>
      rintro l pre ⟨x1, x2⟩ W ⟨⟨hp, hcm, hck, hcr, hfr⟩, hB⟩ _
      by_cases hx1 : x1 = m
      · have e1 : (x1 == m) = true := by simpa using hx1
        by_cases hx2 : x2 = key
        · have e2 : (x2 == key) = true := by simpa using hx2
          have hin : Hid ((m, key) ∈ pre ++ [(x1, x2)]) := by
            show _ ∈ _
            rw [hx1, hx2]; simp
          clear hx1 hx2
          gi_wp2
          exact ⟨KeepsOthers.setCell _ _ _, ⟨rfl, hin.out, World.cell?_setCell_same' _ _ _ (by rw [hcr]; rfl)⟩, hB.setCell (p := ⟨w.heap.size + 1 + 1, 0, none⟩) (by simp; omega) _⟩
        · have e2 : (x2 == key) = false := by simpa using hx2
          have hin : Hid ((m, key) ∉ pre ++ [(x1, x2)]) := by
            show ¬ _
            simp only [List.mem_append, List.mem_singleton, Prod.mk.injEq]
            rintro (h | ⟨_, h⟩)
            · exact hp h
            · exact hx2 h.symm
          clear hx1 hx2
          gi_wp2
          exact ⟨KeepsOthers.refl _, fun _ _ _ h => h, ⟨hin.out, hcm, hck, hcr, hfr⟩, hB⟩
      · have e1 : (x1 == m) = false := by simpa using hx1
        have hin : Hid ((m, key) ∉ pre ++ [(x1, x2)]) := by
          show ¬ _
          simp only [List.mem_append, List.mem_singleton, Prod.mk.injEq]
          rintro (h | ⟨h, _⟩)
          · exact hp h
          · exact hx1 h.symm
        clear hx1
        gi_wp2
        exact ⟨KeepsOthers.refl _, fun _ _ _ h => h, ⟨hin.out, hcm, hck, hcr, hfr⟩, hB⟩
    case done =>
      rintro D ys W hD rfl ⟨⟨hne, _, _, hcr, hfr⟩, hB⟩ hK
      gi_wp2
      have hK' := (KeepsOthers.setCell W ⟨w.heap.size + 1 + 1, 0, none⟩ (.bool false)).same D _ hK rfl
      refine ⟨by simp, .inl ⟨_, _, rfl, run_takeDeferred hK', ?_⟩⟩
      have hc5 := cell_kept (World.cell?_setCell_same' W ⟨w.heap.size + 1 + 1, 0, none⟩ (.bool false) (by rw [hcr]; rfl)) (grownBy_putObj' _ D (.deferred none)) (fun r e => by cases e; exact ⟨_, hK', rfl⟩)
      refine ⟨.bool false, ?_, ret_bool (by rw [hr.out, decide_eq_false hne]), (hB.setCell (p := ⟨w.heap.size + 1 + 1, 0, none⟩) (by simp; omega) _).trans (belowK_b (w := w) (Nat.le_refl _) _ D _ _ (by simp at hD; omega) hK' rfl rfl)⟩
      simp [results, Try.f11, go_sem, hc5]
    case stop =>
      rintro D c pre W hD hpre ⟨⟨rfl, hin, hcr⟩, hB⟩ hK
      gi_wp2
      refine ⟨by simp, .inl ⟨_, _, rfl, run_takeDeferred hK, ?_⟩⟩
      have hc5 := cell_kept hcr (grownBy_putObj' _ D (.deferred none)) (fun r e => by cases e; exact ⟨_, hK, rfl⟩)
      refine ⟨.bool true, ?_, ret_bool (by rw [hr.out, decide_eq_true (hpre.subset hin)]), hB.trans (belowK_b (w := w) (Nat.le_refl _) W D _ _ (by simp at hD; omega) hK rfl rfl)⟩
      simp [results, Try.f11, go_sem, hc5]
  · have hep' : epsB K L M len = false := by simpa using hep
    have hr : Hid (hasB K L M len m key = false) := by
      show _ = _
      unfold hasB
      rw [hep']; rfl
    rw [hep']
    clear hep hep'
    gi_wp2
    refine ⟨.bool false, ?_, ret_bool hr.out.symm, hBF.setCell (p := ⟨w.heap.size + 1 + 1, 0, none⟩) (by simp; omega) _⟩
    have hc5 := World.cell?_setCell_same' w1 ⟨w.heap.size + 1 + 1, 0, none⟩ (.bool false) (by rw [cr]; rfl)
    simp [results, Try.f11, go_sem, hc5]

end Go.Proofs.Ytdohjinlgoadoaa
