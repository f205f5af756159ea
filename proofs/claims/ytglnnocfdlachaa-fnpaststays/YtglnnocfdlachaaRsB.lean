/-
  The specification's lists of members: without. No condition but that the slices read.
-/
import Derived.Test.YtglnnocfdlachaaRsA
namespace Go.Proofs.Ytglnnocfdlachaa
open Go.RowKit
set_option linter.unusedVariables false

theorem withoutTo_step (L : List Int) (n : Int) (k : Nat) (h : k < L.length) : withoutTo L n (k + 1) = if (L.getD k 0 == n) = true then withoutTo L n k else withoutTo L n k ++ [L.getD k 0] := by
  unfold withoutTo
  rw [List.take_add_one, List.filter_append]
  have : L[k]?.toList = [L.getD k 0] := by simp [h]
  rw [this]
  by_cases hc : (L.getD k 0 == n) = true
  · rw [if_pos hc]
    have : [L.getD k 0].filter (fun x => !(x == n)) = [] := by rw [List.filter_cons, hc]; rfl
    rw [this, List.append_nil]
  · rw [if_neg hc]
    have hc' : (L.getD k 0 == n) = false := by simpa using hc
    have : [L.getD k 0].filter (fun x => !(x == n)) = [L.getD k 0] := by rw [List.filter_cons, hc']; rfl
    rw [this]
theorem withoutTo_len (L : List Int) (n : Int) (k : Nat) : (withoutTo L n k).length ≤ L.length := by
  unfold withoutTo
  exact Nat.le_trans (List.length_filter_le _ _) (by rw [List.length_take]; omega)

set_option maxRecDepth 10000 in
set_option maxHeartbeats 2000000 in
theorem without_any (v : Value) (L : List Int) (n : Int) (w : World) (h : RdI w v L) (hl : L.length ≤ 1000) :
    Calls Try.prog 58 #[v, .int .i64 n] w fun e w' => ∃ v', e = .returned v' ∧ OwnI w' w.heap.size v' (withoutL L n) ∧ Below w.heap.size w w' := by
  obtain ⟨i0, hi, hz0, hz1, hz2⟩ := info_parts infoI
  obtain ⟨a, cap, rfl, hlc, hcm, hc⟩ := h
  obtain ⟨m, hm⟩ : ∃ m, m = L.length := ⟨_, rfl⟩
  have HM : Hid (m = L.length) := hm
  rw [← hm] at hlc hc hl ⊢
  clear hm
  have HB0 : Hid (Below w.heap.size w (w.alloc (.cells #[] 2))) := (Below.refl _ _).alloc (Nat.le_refl _) _
  have HO0 : Hid (OwnI (w.alloc (.cells #[] 2)) w.heap.size (.slice (some ⟨w.heap.size, 0, none⟩) 0 0) []) := World.ownsRow_made w #[] 0 (Nat.le_refl _) (by decide) rfl
  go_enter Try.func58, Try.ntmps58
  go_wp2
  go_loopw [5, 6] (fun v' i wr => ∃ (k : Nat), k ≤ m ∧ i = .int .i64 k ∧ Hid (OwnI wr w.heap.size v' (withoutTo L n k)) ∧ Hid (Below w.heap.size w wr)) (fun _ i _ => m - (intOf i).toNat)
  case atStart => exact ⟨0, Nat.zero_le _, rfl, HO0, HB0⟩
  case round =>
    obtain ⟨k, hk, rfl, HO, HB⟩ := hrel
    clear HO0 HB0
    by_cases hlt : k < m
    · obtain ⟨b, off, rfl, hbs, hcell⟩ := hc (by omega)
      have hck := (HB.out.cell (p := ⟨b, off + k, none⟩) hbs).trans (hcell k hlt)
      have hltI : (k : Int) < (m : Int) := by omega
      obtain ⟨y, hy⟩ : ∃ y, y = L.getD k 0 := ⟨_, rfl⟩
      rw [← hy] at hck
      have HT : Hid (withoutTo L n (k + 1) = if (y == n) = true then withoutTo L n k else withoutTo L n k ++ [y]) := by
        show _ = _
        rw [hy]
        exact withoutTo_step L n k (by rw [← HM.out]; exact hlt)
      obtain ⟨M, hM⟩ : ∃ M, M = withoutTo L n k := ⟨_, rfl⟩
      have hMl : M.length ≤ 1000 := by rw [hM]; have h1 := withoutTo_len L n k; have h2 := HM.out; omega
      rw [← hM] at HO HT
      clear hM
      obtain ⟨q, hq⟩ : ∃ q, q = M.length := ⟨_, rfl⟩
      have HO' : Hid (wr.ownsRow w.heap.size 2 1 u5 q (M.map (.int .i64 ·))) := by rw [hq]; exact HO.out
      have HQ : Hid (q = M.length ∧ q + 1 ≤ maxLen ∧ (q + 1) * 8 ≤ 140737488355328) := ⟨hq, by unfold maxLen; omega, by omega⟩
      clear hq hMl hy hcell hc
      cases hyn : (y == n) with
      | true =>
        have hne : (y != n) = false := by simp at hyn; simp [hyn]
        have HF : Hid (OwnI wr w.heap.size u5 (withoutTo L n (k + 1))) := by
          show OwnI _ _ _ _
          rw [HT.out, if_pos hyn]
          exact HO.out
        go_wp2
        go_roundw
        case rel => exact ⟨k + 1, by omega, by go_num, HF, HB⟩
        case measure => simp [intOf]; omega
      | false =>
        have hne : (y != n) = true := by simp at hyn; simp [hyn]
        go_wp2_with (at_builtin; refine wpList_append_own _ rfl _ _ 39 rfl w.heap.size 2 i0 (.int .i64 0) 1 8 Try.underlying39 hi hz0 hz1 hz2 rfl (by decide) _ q _ rfl (HO'.out.alloc _) ⟨wr.heap.size, 0, none⟩ 1 1 [.int .i64 y] rfl rfl (World.news_of_block (heap_alloc_new _ _)) (by simp [Value.oneCell']) HQ.out.2.1 HQ.out.2.2 (by have := HB.out.size; simp; omega) ?_; intro v4 w4 hown4 hgrow4 hnil4)
        have HF : Hid (OwnI w4 w.heap.size v4 (withoutTo L n (k + 1)) ∧ Below w.heap.size w w4) := by
          refine ⟨?_, (HB.out.alloc HB.out.size _).grown hgrow4 (by have := HB.out.size; simp; omega) (fun x hx => (HO'.out.lt x hx).1)⟩
          unfold OwnI
          rw [HT.out, if_neg (by rw [hyn]; decide), List.length_append, ← HQ.out.1, List.map_append]
          exact hown4
        clear hown4 hgrow4 hnil4
        go_wp2
        go_roundw
        case rel => exact ⟨k + 1, by omega, by go_num, HF.out.1, HF.out.2⟩
        case measure => simp [intOf]; omega
    · have hke : k = m := by omega
      have HF : Hid (OwnI wr w.heap.size u5 (withoutL L n)) := by
        have h := HO.out
        rw [hke, HM.out] at h
        unfold withoutTo at h
        rw [List.take_length] at h
        exact h
      subst hke
      clear hlt hk hc
      go_wp2
      go_ret
      exact ⟨_, rfl, HF.out, HB.out⟩
end Go.Proofs.Ytglnnocfdlachaa
