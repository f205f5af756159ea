/-
  The specification's StableOf. No condition but that the slices read.
-/
import Derived.Test.YtjnngncnfbdpkaaRwM
namespace Go.Proofs.Ytjnngncnfbdpkaa
open Go.RowKit Go.Maps
set_option linter.unusedVariables false

theorem lst9_take (X : Nat → Int) : lst9 X = (List.range 9).map X := rfl
/-- the first k of nine numbers -/
def lstK (X : Nat → Int) (k : Nat) : List Int := (List.range k).map X
theorem lstK_len (X : Nat → Int) (k : Nat) : (lstK X k).length = k := by unfold lstK; simp
theorem lstK_succ (X : Nat → Int) (k : Nat) : lstK X (k + 1) = lstK X k ++ [X k] := by unfold lstK; rw [List.range_succ, List.map_append]; rfl

set_option maxRecDepth 10000 in
set_option maxHeartbeats 4000000 in
theorem specStable_any (v u : Value) (L : List Rw) (who : List Int) (w : World) (h : RdR w v L) (hu : RdI w u who) :
    Calls Try.prog 21 #[v, u] w fun e w' => ∃ r, e = .returned r ∧ OwnI w' w.heap.size r (stR L who) ∧ Below w.heap.size w w' := by
  obtain ⟨i0, hi, hz0, hz1, hz2⟩ := info_parts infoI
  have OF : Hid (∀ w' z, Below w.heap.size w w' → Calls Try.prog 24 #[v, .int .i64 z] w' fun e w'' => ∃ u, e = .returned u ∧ RdI w'' u (ofR L z) ∧ Below w'.heap.size w' w'') := fun w' z hB => of_any v L z w' (h.below hB)
  have SR : Hid (Calls Try.prog 17 #[v] w fun e w' => e = .returned (.bool (rowsB L)) ∧ Below w.heap.size w w') := specRows_any v L w h
  obtain ⟨a, cap, rfl, hlc, hcm, hc⟩ := hu
  obtain ⟨m, hm⟩ : ∃ m, m = who.length := ⟨_, rfl⟩
  have HM : Hid (m = who.length) := hm
  rw [← hm] at hlc hc ⊢
  have HR0 : Hid (∀ w' : World, OwnI (w'.alloc (.cells #[] 2)) w'.heap.size (.slice (some ⟨w'.heap.size, 0, none⟩) 0 0) []) := fun w' => World.ownsRow_made w' #[] 0 (Nat.le_refl _) (by decide) rfl
  obtain ⟨a0, c0, hv, _⟩ : ∃ a0 c0, v = .slice a0 L.length c0 ∧ True := by obtain ⟨a, c, e, _⟩ := h; exact ⟨a, c, e, trivial⟩
  subst hv
  clear h hm
  go_enter Try.func21, Try.ntmps21
  go_wp2_with fail
  refine SR.out.mono ?_
  rintro e w1 ⟨rfl, hB1⟩
  have HB1 : Hid (Below w.heap.size w w1) := hB1
  have HBA : Hid (Below w.heap.size w (w1.alloc (.cells #[] 2))) := hB1.alloc hB1.size _
  have HO1 : Hid (OwnI (w1.alloc (.cells #[] 2)) w.heap.size (.slice (some ⟨w1.heap.size, 0, none⟩) 0 0) []) := (HR0.out w1).base hB1.size
  clear hB1
  cases hr : rowsB L with
  | false =>
    have HR : Hid (stR L who = []) := by show _ = _; unfold stR stB; rw [hr]; rfl
    go_wp2
    go_ret
    exact ⟨_, rfl, by rw [HR.out]; exact HO1.out, HBA.out⟩
  | true =>
    by_cases h1 : m < 1
    · have h1d : decide ((m : Int) < 1) = true := decide_eq_true (by omega)
      have HR : Hid (stR L who = []) := by show _ = _; unfold stR stB; rw [← HM.out, decide_eq_false (show ¬ 1 ≤ m by omega)]; simp
      go_wp2
      go_ret
      exact ⟨_, rfl, by rw [HR.out]; exact HO1.out, HBA.out⟩
    · have h1d : decide ((m : Int) < 1) = false := decide_eq_false (by omega)
      by_cases h9 : 9 < m
      · have h9d : decide ((9 : Int) < (m : Int)) = true := decide_eq_true (by omega)
        have HR : Hid (stR L who = []) := by show _ = _; unfold stR stB; rw [← HM.out, decide_eq_false (show ¬ m ≤ 9 by omega)]; simp
        go_wp2
        go_ret
        exact ⟨_, rfl, by rw [HR.out]; exact HO1.out, HBA.out⟩
      · have h9d : decide ((9 : Int) < (m : Int)) = false := decide_eq_false (by omega)
        have HR : Hid (stR L who = lstK (stT L who m) 9) := by show _ = _; unfold stR stB; rw [hr, ← HM.out, decide_eq_true (show 1 ≤ m by omega), decide_eq_true (show m ≤ 9 by omega)]; rfl
        have HRB : Hid (rowsB L = true) := hr
        obtain ⟨b, off, rfl, hbs, hcell⟩ := hc (by omega)
        have hm9 : m ≤ 9 := by omega
        clear hc hr h1 h9
        go_wp2
        go_loopw [5, 6] (fun r i wr => ∃ (k : Nat), k ≤ 9 ∧ i = .int .i64 k ∧ Hid (OwnI wr w.heap.size r (lstK (stT L who m) k)) ∧ Hid (Below w.heap.size w wr)) (fun _ i _ => 9 - (intOf i).toNat)
        case atStart => exact ⟨0, Nat.zero_le _, rfl, HO1, HBA⟩
        case round =>
          obtain ⟨k, hk, rfl, HO, HB⟩ := hrel
          by_cases hk9 : k < 9
          · have hkI : (k : Int) < 9 := by omega
            go_wp2
            go_loopw [7, 8] (fun nn j wq => ∃ (q : Nat) (x : Int), q ≤ m ∧ j = .int .i64 q ∧ nn = .int .i64 x ∧ Hid (x = stT L who q k) ∧ Hid (OwnI wq w.heap.size u5 (lstK (stT L who m) k)) ∧ Hid (Below w.heap.size w wq)) (fun _ j _ => m - (intOf j).toNat)
            case atStart => exact ⟨0, 1000000, Nat.zero_le _, rfl, rfl, rfl, HO, HB⟩
            case round =>
              obtain ⟨q, x, hq, rfl, rfl, HX, HOq, HBq⟩ := hrel
              by_cases hqm : q < m
              · have hqI : (q : Int) < (m : Int) := by omega
                have cq := (HBq.out.cell (p := ⟨b, off + q, none⟩) hbs).trans (hcell q hqm)
                have hst := stT_succ L who (j := q) (by rw [← HM.out]; exact hqm) k
                obtain ⟨z, hz⟩ : ∃ z, z = who.getD q 0 := ⟨_, rfl⟩
                rw [← hz] at cq hst
                have HST : Hid (_) := hst
                clear hz hst
                go_wp2_with fail
                refine (OF.out wr z HBq.out).mono ?_
                rintro e w3 ⟨u3, rfl, hI3, hB3⟩
                obtain ⟨a3, c3, e3, hl1, hl2, hcc⟩ := hI3
                have hl9 : (ofR L z).length = 9 := csB_len (ofR_ok HRB.out z)
                obtain ⟨b3, o3, ha3, hb3, hd3⟩ := hcc (by omega)
                have ck := hd3 k (by omega)
                rw [e3, ha3, hl9]
                obtain ⟨y, hy⟩ : ∃ y, y = fZ L z k := ⟨_, rfl⟩
                have ck' : w3.cell? ⟨b3, o3 + k, none⟩ = some (.int .i64 y) := by rw [hy]; exact ck
                have HXY : Hid ((if y < x then y else x) = stT L who (q + 1) k) := by
                  show _ = _
                  rw [HST.out, HX.out, hy]
                  split <;> omega
                have HO3 : Hid (OwnI w3 w.heap.size u5 (lstK (stT L who m) k)) := HOq.out.below hB3
                have HB3 : Hid (Below w.heap.size w w3) := HBq.out.trans (hB3.mono HBq.out.size)
                clear hB3 hd3 hcc ck hy e3 ha3 hl9
                go_wp2
                go_roundw
                case rel => exact ⟨q + 1, _, by omega, by go_num, rfl, HXY, HO3, HB3⟩
                case measure => simp [intOf]; omega
              · have hqe : q = m := by omega
                subst hqe
                have HX' : Hid (x = stT L who q k) := HX
                have HT : Hid (lstK (stT L who q) (k + 1) = lstK (stT L who q) k ++ [x]) := by show _ = _; rw [lstK_succ, HX.out]
                have HO' : Hid (wr.ownsRow w.heap.size 2 1 u5 k ((lstK (stT L who q) k).map (.int .i64 ·))) := by
                  have := HOq.out
                  unfold OwnI at this
                  rw [lstK_len] at this
                  exact this
                have HQ : Hid (k + 1 ≤ maxLen ∧ (k + 1) * 8 ≤ 140737488355328) := ⟨by unfold maxLen; omega, by omega⟩
                go_wp2_with (at_builtin; refine wpList_append_own _ rfl _ _ 36 rfl w.heap.size 2 i0 (.int .i64 0) 1 8 Try.underlying36 hi hz0 hz1 hz2 rfl (by decide) _ k _ rfl (HO'.out.alloc _) ⟨wr.heap.size, 0, none⟩ 1 1 [.int .i64 x] rfl rfl (World.news_of_block (heap_alloc_new _ _)) (by simp [Value.oneCell']) HQ.out.1 HQ.out.2 (by have := HBq.out.size; simp; omega) ?_; intro v4 w4 hown4 hgrow4 hnil4)
                have HF : Hid (OwnI w4 w.heap.size v4 (lstK (stT L who q) (k + 1)) ∧ Below w.heap.size w w4) := by
                  refine ⟨?_, (HBq.out.alloc HBq.out.size _).grown hgrow4 (by have := HBq.out.size; simp; omega) (fun x hx => (HO'.out.lt x hx).1)⟩
                  unfold OwnI
                  rw [lstK_len, HT.out, List.map_append]
                  exact hown4
                clear hown4 hgrow4 hnil4
                go_wp2
                go_roundw
                case rel => exact ⟨k + 1, by omega, by go_num, HF.out.1, HF.out.2⟩
                case measure => simp [intOf]; omega
          · have hke : k = 9 := by omega
            subst hke
            have HF : Hid (OwnI wr w.heap.size u5 (stR L who)) := by show OwnI _ _ _ _; rw [HR.out]; exact HO.out
            go_wp2
            go_ret
            exact ⟨_, rfl, HF.out, HB.out⟩
end Go.Proofs.Ytjnngncnfbdpkaa
