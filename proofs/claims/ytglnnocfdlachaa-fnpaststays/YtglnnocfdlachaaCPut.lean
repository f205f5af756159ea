/-
  The specification's putting of one event into a chain. No condition but that the slice reads.
-/
import Derived.Test.YtglnnocfdlachaaCk2
import Derived.Test.YtglnnocfdlachaaEL
import Derived.Test.YtglnnocfdlachaaEEq
namespace Go.Proofs.Ytglnnocfdlachaa
open Go.RowKit
set_option linter.unusedVariables false

/-- a list of events with one more, by the order of events -/
def putE : List Ev → Ev → List Ev
  | [], s => [s]
  | x :: l, s => if ahead x s = true then x :: putE l s else if Ev.same x s = true then x :: l else s :: x :: l

/-- what putE is where the first k stand ahead and the next does not -/
theorem putE_at (s : Ev) : ∀ (L : List Ev) (k : Nat), k ≤ L.length → (∀ i, i < k → ahead (L.getD i evZ) s = true) → (k < L.length → ahead (L.getD k evZ) s = false) →
    putE L s = if k < L.length ∧ Ev.same (L.getD k evZ) s = true then L else L.take k ++ [s] ++ L.drop k
  | [], k, hk, _, _ => by
    obtain rfl : k = 0 := by simpa using hk
    simp [putE]
  | x :: l, 0, _, _, h0 => by
    have hx : ahead x s = false := h0 (Nat.zero_lt_succ _)
    unfold putE
    rw [if_neg (by rw [hx]; decide)]
    by_cases e : Ev.same x s = true
    · rw [if_pos e, if_pos ⟨Nat.zero_lt_succ _, e⟩]
    · rw [if_neg e, if_neg (fun h => e h.2)]
      rfl
  | x :: l, k + 1, hk, hi, h0 => by
    have hx : ahead x s = true := hi 0 (Nat.zero_lt_succ _)
    have ih := putE_at s l k (by simpa using hk) (fun i h => by simpa using hi (i + 1) (by omega)) (fun h => by simpa using h0 (by simp; omega))
    rw [show putE (x :: l) s = x :: putE l s by rw [putE, if_pos hx], ih]
    by_cases c : k < l.length ∧ Ev.same (l.getD k evZ) s = true
    · rw [if_pos c, if_pos ⟨by simp; omega, by simpa using c.2⟩]
    · rw [if_neg c, if_neg (fun h => c ⟨by have := h.1; simp at this; omega, by simpa using h.2⟩)]
      simp

set_option maxRecDepth 10000 in
set_option maxHeartbeats 8000000 in
theorem put_any (b off cap : Nat) (L : List Ev) (x : Ev) (w : World) (h : Lies w b off L) (hb : b < w.heap.size) (hl : L.length ≤ cap) (hc : cap ≤ 9223372036854775807) (h1 : L.length ≤ 2000000) :
    Calls Try.prog 23 #[.slice (some ⟨b, off, none⟩) L.length cap, .agg #[.int .i64 (x).a, .int .i64 (x).b, .int .i64 (x).c, .int .i64 (x).d]] w fun e w' => ∃ g gc, e = .returned (.slice (some ⟨g, 0, none⟩) (putE L x).length gc) ∧ OwnE w' w.heap.size g gc (putE L x) ∧ Below w.heap.size w w' := by
  obtain ⟨i0, hi, hz0, hz1, hz2⟩ := info_parts infoE
  obtain ⟨n, hn⟩ : ∃ n, n = L.length := ⟨_, rfl⟩
  have HL0 : Hid (Lies w b off L) := h
  rw [← hn] at hl h1 ⊢
  have HN : Hid (n = L.length) := hn
  clear h hn
  go_enter Try.func23, Try.ntmps23
  go_wp2
  obtain ⟨W, hW⟩ : ∃ W, W = w.alloc (.cells #[.int .i64 x.a, .int .i64 x.b, .int .i64 x.c, .int .i64 x.d] 30) := ⟨_, rfl⟩
  rw [← hW]
  have hBW : Below w.heap.size w W := by rw [hW]; exact (Below.refl _ _).alloc (Nat.le_refl _) _
  have hWs : W.heap.size = w.heap.size + 1 := by rw [hW]; simp
  have g1 : W.heap[w.heap.size]? = some (.cells #[.int .i64 x.a, .int .i64 x.b, .int .i64 x.c, .int .i64 x.d] 30) := by rw [hW]; exact heap_alloc_new _ _
  have HBW : Hid (Below w.heap.size w W) := hBW
  have HL : Hid (Lies W b off L) := HL0.out.grow hb hBW
  have HbW : Hid (b < W.heap.size) := by show _ < _; omega
  have HE : Hid (∀ w', Below W.heap.size W w' → w'.cell? ⟨w.heap.size, 0, none⟩ = some (.int .i64 x.a) ∧ w'.cell? ⟨w.heap.size, 1, none⟩ = some (.int .i64 x.b) ∧ w'.cell? ⟨w.heap.size, 2, none⟩ = some (.int .i64 x.c) ∧ w'.cell? ⟨w.heap.size, 3, none⟩ = some (.int .i64 x.d)) := by
    intro w' hB
    have hh := (hB.block _ (lt_of_block g1)).trans g1
    exact ⟨cellN hh, cellN hh, cellN hh, cellN hh⟩
  clear hW hBW hWs g1 HL0
  go_loopw [5] (fun i wr => ∃ (k : Nat), k ≤ n ∧ i = .int .i64 k ∧ Hid (∀ j, j < k → ahead (L.getD j evZ) x = true) ∧ Below W.heap.size W wr) (fun i _ => n - (intOf i).toNat)
  case atStart => exact ⟨0, Nat.zero_le _, rfl, fun j hj => absurd hj (Nat.not_lt_zero _), Below.refl _ _⟩
  case round =>
    obtain ⟨k, hk, rfl, HR, hB⟩ := hrel
    have HB : Hid (Below W.heap.size W wr) := hB
    have hne := Later.any wr
    have HEs : Hid (_) := HE.out wr hB
    by_cases hlt : k < n
    · have hltI : (k : Int) < (n : Int) := by omega
      obtain ⟨y, hy⟩ : ∃ y, y = L.getD k evZ := ⟨_, rfl⟩
      have m1 : EvAt wr b (off + k * 4) y := by rw [hy]; exact (HL.out k (by rw [← HN.out]; exact hlt)).grow HbW.out hB
      have HQ : Hid (∀ w', Below W.heap.size W w' → w'.cell? ⟨b, off + k * 4, none⟩ = some (.int .i64 y.a) ∧ w'.cell? ⟨b, off + k * 4 + 1, none⟩ = some (.int .i64 y.b) ∧ w'.cell? ⟨b, off + k * 4 + 2, none⟩ = some (.int .i64 y.c) ∧ w'.cell? ⟨b, off + k * 4 + 3, none⟩ = some (.int .i64 y.d)) := by
        intro w' hB'
        obtain ⟨a0, a1, a2, a3⟩ := (HL.out k (by rw [← HN.out]; exact hlt)).grow HbW.out hB'
        rw [← hy] at a0 a1 a2 a3
        exact ⟨a0, a1, a2, a3⟩
      have HY : Hid (y = L.getD k evZ) := hy
      have q0 : ∀ s : Later wr, s.val.cell? ⟨b, off + k * 4, none⟩ = some (.int .i64 y.a) := fun s => s.cell m1.c0
      have q1 : ∀ s : Later wr, s.val.cell? ⟨b, off + k * 4 + 1, none⟩ = some (.int .i64 y.b) := fun s => s.cell m1.c1
      have q2 : ∀ s : Later wr, s.val.cell? ⟨b, off + k * 4 + 2, none⟩ = some (.int .i64 y.c) := fun s => s.cell m1.c2
      have q3 : ∀ s : Later wr, s.val.cell? ⟨b, off + k * 4 + 3, none⟩ = some (.int .i64 y.d) := fun s => s.cell m1.c3
      have p0 : ∀ s : Later wr, s.val.cell? ⟨w.heap.size, 0, none⟩ = some (.int .i64 x.a) := fun s => s.cell HEs.out.1
      have p1 : ∀ s : Later wr, s.val.cell? ⟨w.heap.size, 1, none⟩ = some (.int .i64 x.b) := fun s => s.cell HEs.out.2.1
      have p2 : ∀ s : Later wr, s.val.cell? ⟨w.heap.size, 2, none⟩ = some (.int .i64 x.c) := fun s => s.cell HEs.out.2.2.1
      have p3 : ∀ s : Later wr, s.val.cell? ⟨w.heap.size, 3, none⟩ = some (.int .i64 x.d) := fun s => s.cell HEs.out.2.2.2
      clear m1 hB hy
      cases hq : ahead y x with
      | true =>
        have HR' : Hid (∀ j, j < k + 1 → ahead (L.getD j evZ) x = true) := by
          intro j hj
          rcases Nat.lt_succ_iff_lt_or_eq.1 hj with h1 | rfl
          · exact HR.out j h1
          · rw [← HY.out]; exact hq
        go_wp2
        refine wp_region_later (by kernel_rfl) (by kernel_rfl) ?_
        repeat (go_big_quiet_step ((rename_i t; with_reducible exact ahead_later hq t)))
        refine wpQuiet_nil ?_
        rintro _ ⟨⟨w', hB2⟩, rfl⟩
        go_wp2
        go_roundw
        case rel => exact ⟨k + 1, by omega, by go_num, HR', HB.out.trans (hB2.mono HB.out.size)⟩
        case measure => simp [intOf]; omega
      | false =>
        have hn := HN.out
        have hat := putE_at x L k (by omega) HR.out (fun _ => by rw [← HY.out]; exact hq)
        have hkl : (L.take k).length = k := by rw [List.length_take]; omega
        have hdl : (L.drop k).length = n - k := by rw [List.length_drop]; omega
        have HKL : Hid ((L.take k).length = k ∧ (L.drop k).length = n - k) := ⟨hkl, hdl⟩
        cases he : Ev.same y x with
        | true =>
          have HP : Hid (putE L x = L) := by
            show _ = _
            rw [hat, if_pos ⟨by omega, by rw [← HY.out]; exact he⟩]
          clear hat
          clear hkl hdl hn
          go_wp2
          refine wp_region_later (by kernel_rfl) (by kernel_rfl) ?_
          repeat (go_big_quiet_step ((rename_i t; with_reducible exact ahead_later hq t)))
          refine wpQuiet_nil ?_
          rintro wq ⟨s, hs⟩
          have hBq0 : Below wr.heap.size wr wq := by rw [hs]; exact s.ok
          clear hs s
          have HBq : Hid (Below W.heap.size W wq) := HB.out.trans (hBq0.mono HB.out.size)
          clear hBq0
          have hc1 : Hid (0 + k ≤ maxLen) := by show _ ≤ _; unfold maxLen; omega
          have hc2 : Hid ((0 + k) * 32 ≤ 140737488355328) := by show _ ≤ _; omega
          have hc3 : Hid (k + 1 ≤ maxLen) := by show _ ≤ _; unfold maxLen; omega
          have hc4 : Hid ((k + 1) * 32 ≤ 140737488355328) := by show _ ≤ _; omega
          have hc5 : Hid (k + 1 + (n - k) ≤ maxLen) := by show _ ≤ _; unfold maxLen; omega
          have hc6 : Hid ((k + 1 + (n - k)) * 32 ≤ 140737488355328) := by show _ ≤ _; omega
          have hc7 : Hid (k + (n - k) ≤ maxLen) := by show _ ≤ _; unfold maxLen; omega
          have hc8 : Hid ((k + (n - k)) * 32 ≤ 140737488355328) := by show _ ≤ _; omega
          have HW : Hid (Lies (wq.alloc (.cells #[] 30)) b off (L.take k)) := (HL.out.take k).grow HbW.out (HBq.out.alloc HBq.out.size _)
          clear q0 q1 q2 q3 p0 p1 p2 p3
          go_wp2_with (first
            | (at_builtin
               refine wpList_append_own _ rfl _ _ 26 rfl W.heap.size 30 i0 (.agg #[.int .i64 0, .int .i64 0, .int .i64 0, .int .i64 0]) 4 32 Try.underlying26 hi hz0 hz1 hz2 rfl (by decide) _ 0 [] rfl (World.ownsRow_made wq #[] 0 HBq.out.size (by decide) rfl) ⟨b, off, none⟩ k cap (cellsL (L.take k)) rfl (by rw [cellsL_len, HKL.out.1]) HW.out.news (oneL _) hc1.out hc2.out (by have := HBq.out.size; simp; omega) ?_
               intro v' w3 hown hgrow hnil
               obtain ⟨g, gc, rfl, hf⟩ := own_form hown (L := L.take k) (by rw [HKL.out.1, Nat.zero_add]) (List.nil_append _) (fun e => by have := (hnil.1 e).1; cases this)
               have hB3 : Below W.heap.size W w3 := (HBq.out.alloc HBq.out.size _).grown hgrow (by have := HBq.out.size; simp; omega) (fun x hx => by have hx' : some wq.heap.size = some x := hx; cases hx'; exact HBq.out.size)
               rw [HKL.out.1]
               have HO3 : Hid (w3.ownsRow W.heap.size 30 4 (.slice (some ⟨g, 0, none⟩) k gc) k (cellsL (L.take k))) := own_form2 hf HKL.out.1
               have HB3 : Hid (Below W.heap.size W w3) := hB3
               have HW3 : Hid (Lies w3 b (off + k * 4) (L.drop k)) := (HL.out.drop k).grow HbW.out hB3
               obtain ⟨e0, e1, e2, e3⟩ := HE.out w3 hB3
               obtain ⟨f0, f1, f2, f3⟩ := HQ.out w3 hB3
               clear hown hgrow hnil hf hB3))
          have hne3 := Later.any w3
          have u0 : ∀ s : Later w3, s.val.cell? ⟨w.heap.size, 0, none⟩ = some (.int .i64 x.a) := fun s => s.cell e0
          have v0 : ∀ s : Later w3, s.val.cell? ⟨b, off + k * 4, none⟩ = some (.int .i64 y.a) := fun s => s.cell f0
          have u1 : ∀ s : Later w3, s.val.cell? ⟨w.heap.size, 1, none⟩ = some (.int .i64 x.b) := fun s => s.cell e1
          have v1 : ∀ s : Later w3, s.val.cell? ⟨b, off + k * 4 + 1, none⟩ = some (.int .i64 y.b) := fun s => s.cell f1
          have u2 : ∀ s : Later w3, s.val.cell? ⟨w.heap.size, 2, none⟩ = some (.int .i64 x.c) := fun s => s.cell e2
          have v2 : ∀ s : Later w3, s.val.cell? ⟨b, off + k * 4 + 2, none⟩ = some (.int .i64 y.c) := fun s => s.cell f2
          have u3 : ∀ s : Later w3, s.val.cell? ⟨w.heap.size, 3, none⟩ = some (.int .i64 x.d) := fun s => s.cell e3
          have v3 : ∀ s : Later w3, s.val.cell? ⟨b, off + k * 4 + 3, none⟩ = some (.int .i64 y.d) := fun s => s.cell f3
          have hql : ∀ w, (binOp .eql 30 (.agg #[.int .i64 (y).a, .int .i64 (y).b, .int .i64 (y).c, .int .i64 (y).d]) (.agg #[.int .i64 (x).a, .int .i64 (x).b, .int .i64 (x).c, .int .i64 (x).d])).run Try.prog w = .ok (.bool true) w := fun w => by rw [eqlE, he]
          have hgd : ∀ op p q w, (eqGuard op 30 p q (.agg #[.int .i64 (y).a, .int .i64 (y).b, .int .i64 (y).c, .int .i64 (y).d]) (.agg #[.int .i64 (x).a, .int .i64 (x).b, .int .i64 (x).c, .int .i64 (x).d])).run Try.prog w = .ok () w := fun op p q w => guardE op p q y x w
          clear f0 f1 f2 f3 e0 e1 e2 e3
          refine wp_region_later (by kernel_rfl) (by kernel_rfl) ?_
          repeat (go_big_quiet_step (fail))
          refine wpQuiet_nil ?_
          rintro w3' ⟨s, hs⟩
          have hB3 : Below w3.heap.size w3 w3' := by rw [hs]; exact s.ok
          clear hs s u0 u1 u2 u3 v0 v1 v2 v3 hql hgd hne3
          have HO3' : Hid (w3'.ownsRow W.heap.size 30 4 (.slice (some ⟨g, 0, none⟩) k gc) k (cellsL (L.take k))) := ownsRow_below HO3.out hB3
          have HB3' : Hid (Below W.heap.size W w3') := HB3.out.trans (hB3.mono HB3.out.size)
          have HW3' : Hid (Lies w3' b (off + k * 4) (L.drop k)) := (HL.out.drop k).grow HbW.out HB3'.out
          obtain ⟨e0, e1, e2, e3⟩ := HE.out w3' HB3'.out
          clear hB3 HO3 HB3 HW3
          go_wp2_with (first
            | (at_builtin
               refine wpList_append_own _ rfl _ _ 26 rfl W.heap.size 30 i0 (.agg #[.int .i64 0, .int .i64 0, .int .i64 0, .int .i64 0]) 4 32 Try.underlying26 hi hz0 hz1 hz2 rfl (by decide) _ k _ rfl HO3'.out ⟨b, off + k * 4, none⟩ (n - k) (cap - k) (cellsL (L.drop k)) rfl (by rw [cellsL_len, HKL.out.2]) HW3'.out.news (oneL _) hc7.out hc8.out HB3'.out.size ?_
               intro v5 w5 hown5 hgrow5 hnil5
               have hB5 : Below W.heap.size W w5 := HB3'.out.grown hgrow5 HB3'.out.size (fun x hx => by have := (HO3'.out.lt x hx).1; exact this)
               obtain ⟨g5, gc5, rfl, hf5⟩ := own_form hown5 (L := putE L x) (by have h := HN.out; rw [HP.out]; omega) (by rw [HP.out, ← cellsL_append, List.take_append_drop]) (fun e => by have := (hnil5.1 e).1; cases this)
               have HF : Hid (OwnE w5 w.heap.size g5 gc5 (putE L x) ∧ Below w.heap.size w w5) := ⟨hf5.base (by have := HBW.out.size; omega), HBW.out.trans (hB5.mono HBW.out.size)⟩
               clear hown5 hgrow5 hnil5 hf5 hB5))
          go_wp2
          go_ret
          exact ⟨g5, gc5, rfl, HF.out.1, HF.out.2⟩
        | false =>
          have HP : Hid (putE L x = L.take k ++ [x] ++ L.drop k) := by
            show _ = _
            rw [hat, if_neg (fun h => by have h2 := h.2; rw [← HY.out, he] at h2; cases h2)]
          clear hat
          clear hkl hdl hn
          go_wp2
          refine wp_region_later (by kernel_rfl) (by kernel_rfl) ?_
          repeat (go_big_quiet_step ((rename_i t; with_reducible exact ahead_later hq t)))
          refine wpQuiet_nil ?_
          rintro wq ⟨s, hs⟩
          have hBq0 : Below wr.heap.size wr wq := by rw [hs]; exact s.ok
          clear hs s
          have HBq : Hid (Below W.heap.size W wq) := HB.out.trans (hBq0.mono HB.out.size)
          clear hBq0
          have hc1 : Hid (0 + k ≤ maxLen) := by show _ ≤ _; unfold maxLen; omega
          have hc2 : Hid ((0 + k) * 32 ≤ 140737488355328) := by show _ ≤ _; omega
          have hc3 : Hid (k + 1 ≤ maxLen) := by show _ ≤ _; unfold maxLen; omega
          have hc4 : Hid ((k + 1) * 32 ≤ 140737488355328) := by show _ ≤ _; omega
          have hc5 : Hid (k + 1 + (n - k) ≤ maxLen) := by show _ ≤ _; unfold maxLen; omega
          have hc6 : Hid ((k + 1 + (n - k)) * 32 ≤ 140737488355328) := by show _ ≤ _; omega
          have hc7 : Hid (k + (n - k) ≤ maxLen) := by show _ ≤ _; unfold maxLen; omega
          have hc8 : Hid ((k + (n - k)) * 32 ≤ 140737488355328) := by show _ ≤ _; omega
          have HW : Hid (Lies (wq.alloc (.cells #[] 30)) b off (L.take k)) := (HL.out.take k).grow HbW.out (HBq.out.alloc HBq.out.size _)
          clear q0 q1 q2 q3 p0 p1 p2 p3
          go_wp2_with (first
            | (at_builtin
               refine wpList_append_own _ rfl _ _ 26 rfl W.heap.size 30 i0 (.agg #[.int .i64 0, .int .i64 0, .int .i64 0, .int .i64 0]) 4 32 Try.underlying26 hi hz0 hz1 hz2 rfl (by decide) _ 0 [] rfl (World.ownsRow_made wq #[] 0 HBq.out.size (by decide) rfl) ⟨b, off, none⟩ k cap (cellsL (L.take k)) rfl (by rw [cellsL_len, HKL.out.1]) HW.out.news (oneL _) hc1.out hc2.out (by have := HBq.out.size; simp; omega) ?_
               intro v' w3 hown hgrow hnil
               obtain ⟨g, gc, rfl, hf⟩ := own_form hown (L := L.take k) (by rw [HKL.out.1, Nat.zero_add]) (List.nil_append _) (fun e => by have := (hnil.1 e).1; cases this)
               have hB3 : Below W.heap.size W w3 := (HBq.out.alloc HBq.out.size _).grown hgrow (by have := HBq.out.size; simp; omega) (fun x hx => by have hx' : some wq.heap.size = some x := hx; cases hx'; exact HBq.out.size)
               rw [HKL.out.1]
               have HO3 : Hid (w3.ownsRow W.heap.size 30 4 (.slice (some ⟨g, 0, none⟩) k gc) k (cellsL (L.take k))) := own_form2 hf HKL.out.1
               have HB3 : Hid (Below W.heap.size W w3) := hB3
               have HW3 : Hid (Lies w3 b (off + k * 4) (L.drop k)) := (HL.out.drop k).grow HbW.out hB3
               obtain ⟨e0, e1, e2, e3⟩ := HE.out w3 hB3
               obtain ⟨f0, f1, f2, f3⟩ := HQ.out w3 hB3
               clear hown hgrow hnil hf hB3))
          have hne3 := Later.any w3
          have u0 : ∀ s : Later w3, s.val.cell? ⟨w.heap.size, 0, none⟩ = some (.int .i64 x.a) := fun s => s.cell e0
          have v0 : ∀ s : Later w3, s.val.cell? ⟨b, off + k * 4, none⟩ = some (.int .i64 y.a) := fun s => s.cell f0
          have u1 : ∀ s : Later w3, s.val.cell? ⟨w.heap.size, 1, none⟩ = some (.int .i64 x.b) := fun s => s.cell e1
          have v1 : ∀ s : Later w3, s.val.cell? ⟨b, off + k * 4 + 1, none⟩ = some (.int .i64 y.b) := fun s => s.cell f1
          have u2 : ∀ s : Later w3, s.val.cell? ⟨w.heap.size, 2, none⟩ = some (.int .i64 x.c) := fun s => s.cell e2
          have v2 : ∀ s : Later w3, s.val.cell? ⟨b, off + k * 4 + 2, none⟩ = some (.int .i64 y.c) := fun s => s.cell f2
          have u3 : ∀ s : Later w3, s.val.cell? ⟨w.heap.size, 3, none⟩ = some (.int .i64 x.d) := fun s => s.cell e3
          have v3 : ∀ s : Later w3, s.val.cell? ⟨b, off + k * 4 + 3, none⟩ = some (.int .i64 y.d) := fun s => s.cell f3
          have hql : ∀ w, (binOp .eql 30 (.agg #[.int .i64 (y).a, .int .i64 (y).b, .int .i64 (y).c, .int .i64 (y).d]) (.agg #[.int .i64 (x).a, .int .i64 (x).b, .int .i64 (x).c, .int .i64 (x).d])).run Try.prog w = .ok (.bool false) w := fun w => by rw [eqlE, he]
          have hgd : ∀ op p q w, (eqGuard op 30 p q (.agg #[.int .i64 (y).a, .int .i64 (y).b, .int .i64 (y).c, .int .i64 (y).d]) (.agg #[.int .i64 (x).a, .int .i64 (x).b, .int .i64 (x).c, .int .i64 (x).d])).run Try.prog w = .ok () w := fun op p q w => guardE op p q y x w
          clear f0 f1 f2 f3 e0 e1 e2 e3
          refine wp_region_later (by kernel_rfl) (by kernel_rfl) ?_
          repeat (go_big_quiet_step (fail))
          refine wpQuiet_nil ?_
          rintro w3' ⟨s, hs⟩
          have hB3 : Below w3.heap.size w3 w3' := by rw [hs]; exact s.ok
          clear hs s u0 u1 u2 u3 v0 v1 v2 v3 hql hgd hne3
          have HO3' : Hid (w3'.ownsRow W.heap.size 30 4 (.slice (some ⟨g, 0, none⟩) k gc) k (cellsL (L.take k))) := ownsRow_below HO3.out hB3
          have HB3' : Hid (Below W.heap.size W w3') := HB3.out.trans (hB3.mono HB3.out.size)
          have HW3' : Hid (Lies w3' b (off + k * 4) (L.drop k)) := (HL.out.drop k).grow HbW.out HB3'.out
          obtain ⟨e0, e1, e2, e3⟩ := HE.out w3' HB3'.out
          clear hB3 HO3 HB3 HW3
          go_wp2_with (first
            | (at_builtin
               refine wpList_append_own _ rfl _ _ 26 rfl W.heap.size 30 i0 (.agg #[.int .i64 0, .int .i64 0, .int .i64 0, .int .i64 0]) 4 32 Try.underlying26 hi hz0 hz1 hz2 rfl (by decide) _ k _ rfl (HO3'.out.alloc _) ⟨w3'.heap.size, 0, none⟩ 1 1 (enc4 x) rfl rfl (World.news_of_block (heap_alloc_new _ _)) (by rw [← cellsL_one]; exact oneL _) hc3.out hc4.out (by have := HB3'.out.size; simp; omega) ?_
               intro v4 w4 hown4 hgrow4 hnil4
               have hB4 : Below W.heap.size W w4 := (HB3'.out.alloc HB3'.out.size _).grown hgrow4 (by have := HB3'.out.size; simp; omega) (fun x hx => by have := (HO3'.out.lt x hx).1; exact this)
               obtain ⟨g4, gc4, rfl, hf4⟩ := own_form hown4 (L := L.take k ++ [x]) (by rw [List.length_append, HKL.out.1]; rfl) (by rw [cellsL_append, cellsL_one]) (fun e => by have := (hnil4.1 e).1; cases this)
               have hl4 : (L.take k ++ [x]).length = k + 1 := by rw [List.length_append, HKL.out.1]; rfl
               rw [hl4]
               have HO4 : Hid (w4.ownsRow W.heap.size 30 4 (.slice (some ⟨g4, 0, none⟩) (k + 1) gc4) (k + 1) (cellsL (L.take k ++ [x]))) := own_form2 hf4 hl4
               have HB4 : Hid (Below W.heap.size W w4) := hB4
               have HW4 : Hid (Lies w4 b (off + k * 4) (L.drop k)) := (HL.out.drop k).grow HbW.out hB4
               clear hown4 hgrow4 hnil4 hf4 hB4 hl4 e0 e1 e2 e3)
            | (at_builtin
               refine wpList_append_own _ rfl _ _ 26 rfl W.heap.size 30 i0 (.agg #[.int .i64 0, .int .i64 0, .int .i64 0, .int .i64 0]) 4 32 Try.underlying26 hi hz0 hz1 hz2 rfl (by decide) _ (k + 1) _ rfl HO4.out ⟨b, off + k * 4, none⟩ (n - k) (cap - k) (cellsL (L.drop k)) rfl (by rw [cellsL_len, HKL.out.2]) HW4.out.news (oneL _) hc5.out hc6.out HB4.out.size ?_
               intro v5 w5 hown5 hgrow5 hnil5
               have hB5 : Below W.heap.size W w5 := HB4.out.grown hgrow5 HB4.out.size (fun x hx => by have := (HO4.out.lt x hx).1; exact this)
               obtain ⟨g5, gc5, rfl, hf5⟩ := own_form hown5 (L := putE L x) (by rw [HP.out, List.length_append, List.length_append, HKL.out.1, HKL.out.2]; rfl) (by rw [HP.out, cellsL_append (L.take k ++ [x])]) (fun e => by have := (hnil5.1 e).1; cases this)
               have HF : Hid (OwnE w5 w.heap.size g5 gc5 (putE L x) ∧ Below w.heap.size w w5) := ⟨hf5.base (by have := HBW.out.size; omega), HBW.out.trans (hB5.mono HBW.out.size)⟩
               clear hown5 hgrow5 hnil5 hf5 hB5))
          go_wp2
          go_ret
          exact ⟨g5, gc5, rfl, HF.out.1, HF.out.2⟩
    · have hke : k = n := by omega
      subst hke
      have hkd : decide ((k : Int) < (k : Int)) = false := by simp
      have hn := HN.out
      have HP : Hid (putE L x = L.take k ++ [x]) := by
        show _ = _
        rw [putE_at x L k (by omega) HR.out (fun h => by omega), if_neg (fun h => by omega), List.drop_eq_nil_of_le (by omega), List.append_nil]
      have hkl : (L.take k).length = k := by rw [List.length_take]; omega
      have hdl : (L.drop k).length = 0 := by rw [List.length_drop]; omega
      have HKL : Hid ((L.take k).length = k ∧ (L.drop k).length = 0) := ⟨hkl, hdl⟩
      clear hB
      clear hkl hdl hn
      go_wp2
      refine wp_region_later (by kernel_rfl) (by kernel_rfl) ?_
      repeat (go_big_quiet_step (fail))
      refine wpQuiet_nil ?_
      rintro wq ⟨s, hs⟩
      have hBq0 : Below wr.heap.size wr wq := by rw [hs]; exact s.ok
      clear hs s
      have HBq : Hid (Below W.heap.size W wq) := HB.out.trans (hBq0.mono HB.out.size)
      clear hBq0
      have hc1 : Hid (0 + k ≤ maxLen) := by show _ ≤ _; unfold maxLen; omega
      have hc2 : Hid ((0 + k) * 32 ≤ 140737488355328) := by show _ ≤ _; omega
      have hc3 : Hid (k + 1 ≤ maxLen) := by show _ ≤ _; unfold maxLen; omega
      have hc4 : Hid ((k + 1) * 32 ≤ 140737488355328) := by show _ ≤ _; omega
      have hc5 : Hid (k + 1 + 0 ≤ maxLen) := by show _ ≤ _; unfold maxLen; omega
      have hc6 : Hid ((k + 1 + 0) * 32 ≤ 140737488355328) := by show _ ≤ _; omega
      have hc7 : Hid (k + 0 ≤ maxLen) := by show _ ≤ _; unfold maxLen; omega
      have hc8 : Hid ((k + 0) * 32 ≤ 140737488355328) := by show _ ≤ _; omega
      have HW : Hid (Lies (wq.alloc (.cells #[] 30)) b off (L.take k)) := (HL.out.take k).grow HbW.out (HBq.out.alloc HBq.out.size _)
      by_cases hcap : cap = k
      · have hkc : k = cap := hcap.symm
        clear hcap
        subst hkc
        go_wp2_with (first
          | (at_builtin
             refine wpList_append_own _ rfl _ _ 26 rfl W.heap.size 30 i0 (.agg #[.int .i64 0, .int .i64 0, .int .i64 0, .int .i64 0]) 4 32 Try.underlying26 hi hz0 hz1 hz2 rfl (by decide) _ 0 [] rfl (World.ownsRow_made wq #[] 0 HBq.out.size (by decide) rfl) ⟨b, off, none⟩ k k (cellsL (L.take k)) rfl (by rw [cellsL_len, HKL.out.1]) HW.out.news (oneL _) hc1.out hc2.out (by have := HBq.out.size; simp; omega) ?_
             intro v' w3 hown hgrow hnil
             obtain ⟨g, gc, rfl, hf⟩ := own_form hown (L := L.take k) (by rw [HKL.out.1, Nat.zero_add]) (List.nil_append _) (fun e => by have := (hnil.1 e).1; cases this)
             have hB3 : Below W.heap.size W w3 := (HBq.out.alloc HBq.out.size _).grown hgrow (by have := HBq.out.size; simp; omega) (fun x hx => by have hx' : some wq.heap.size = some x := hx; cases hx'; exact HBq.out.size)
             rw [HKL.out.1]
             have HO3 : Hid (w3.ownsRow W.heap.size 30 4 (.slice (some ⟨g, 0, none⟩) k gc) k (cellsL (L.take k))) := own_form2 hf HKL.out.1
             have HB3 : Hid (Below W.heap.size W w3) := hB3
             have HW3 : Hid (Lies w3 b (off + k * 4) (L.drop k)) := (HL.out.drop k).grow HbW.out hB3
             obtain ⟨e0, e1, e2, e3⟩ := HE.out w3 hB3
             clear hown hgrow hnil hf hB3))
        have hne3 := Later.any w3
        have u0 : ∀ s : Later w3, s.val.cell? ⟨w.heap.size, 0, none⟩ = some (.int .i64 x.a) := fun s => s.cell e0
        have u1 : ∀ s : Later w3, s.val.cell? ⟨w.heap.size, 1, none⟩ = some (.int .i64 x.b) := fun s => s.cell e1
        have u2 : ∀ s : Later w3, s.val.cell? ⟨w.heap.size, 2, none⟩ = some (.int .i64 x.c) := fun s => s.cell e2
        have u3 : ∀ s : Later w3, s.val.cell? ⟨w.heap.size, 3, none⟩ = some (.int .i64 x.d) := fun s => s.cell e3
        clear e0 e1 e2 e3
        refine wp_region_later (by kernel_rfl) (by kernel_rfl) ?_
        repeat (go_big_quiet_step (fail))
        refine wpQuiet_nil ?_
        rintro w3' ⟨s, hs⟩
        have hB3 : Below w3.heap.size w3 w3' := by rw [hs]; exact s.ok
        clear hs s u0 u1 u2 u3 hne3
        have HO3' : Hid (w3'.ownsRow W.heap.size 30 4 (.slice (some ⟨g, 0, none⟩) k gc) k (cellsL (L.take k))) := ownsRow_below HO3.out hB3
        have HB3' : Hid (Below W.heap.size W w3') := HB3.out.trans (hB3.mono HB3.out.size)
        obtain ⟨e0, e1, e2, e3⟩ := HE.out w3' HB3'.out
        clear hB3 HO3 HB3 HW3
        go_wp2_with (first
          | (at_builtin
             refine wpList_append_own _ rfl _ _ 26 rfl W.heap.size 30 i0 (.agg #[.int .i64 0, .int .i64 0, .int .i64 0, .int .i64 0]) 4 32 Try.underlying26 hi hz0 hz1 hz2 rfl (by decide) _ k _ rfl (HO3'.out.alloc _) ⟨w3'.heap.size, 0, none⟩ 1 1 (enc4 x) rfl rfl (World.news_of_block (heap_alloc_new _ _)) (by rw [← cellsL_one]; exact oneL _) hc3.out hc4.out (by have := HB3'.out.size; simp; omega) ?_
             intro v4 w4 hown4 hgrow4 hnil4
             have hB4 : Below W.heap.size W w4 := (HB3'.out.alloc HB3'.out.size _).grown hgrow4 (by have := HB3'.out.size; simp; omega) (fun x hx => by have := (HO3'.out.lt x hx).1; exact this)
             obtain ⟨g4, gc4, rfl, hf4⟩ := own_form hown4 (L := L.take k ++ [x]) (by rw [List.length_append, HKL.out.1]; rfl) (by rw [cellsL_append, cellsL_one]) (fun e => by have := (hnil4.1 e).1; cases this)
             have hl4 : (L.take k ++ [x]).length = k + 1 := by rw [List.length_append, HKL.out.1]; rfl
             rw [hl4]
             have HO4 : Hid (w4.ownsRow W.heap.size 30 4 (.slice (some ⟨g4, 0, none⟩) (k + 1) gc4) (k + 1) (cellsL (L.take k ++ [x]))) := own_form2 hf4 hl4
             have HB4 : Hid (Below W.heap.size W w4) := hB4
             have HW4 : Hid (Lies w4 b (off + k * 4) (L.drop k)) := (HL.out.drop k).grow HbW.out hB4
             clear hown4 hgrow4 hnil4 hf4 hB4 hl4 e0 e1 e2 e3)
          | (at_builtin
             first | refine wpList_append_own _ rfl _ _ 26 rfl W.heap.size 30 i0 (.agg #[.int .i64 0, .int .i64 0, .int .i64 0, .int .i64 0]) 4 32 Try.underlying26 hi hz0 hz1 hz2 rfl (by decide) _ (k + 1) _ rfl HO4.out ⟨b, off, none⟩ 0 _ [] rfl rfl (fun j u hu => by simp at hu) (fun u hu => by simp at hu) hc5.out hc6.out HB4.out.size ?_ | refine wpList_append_own _ rfl _ _ 26 rfl W.heap.size 30 i0 (.agg #[.int .i64 0, .int .i64 0, .int .i64 0, .int .i64 0]) 4 32 Try.underlying26 hi hz0 hz1 hz2 rfl (by decide) _ (k + 1) _ rfl HO4.out ⟨b, off + k * 4, none⟩ 0 _ [] rfl rfl (fun j u hu => by simp at hu) (fun u hu => by simp at hu) hc5.out hc6.out HB4.out.size ?_
             intro v5 w5 hown5 hgrow5 hnil5
             have hB5 : Below W.heap.size W w5 := HB4.out.grown hgrow5 HB4.out.size (fun x hx => by have := (HO4.out.lt x hx).1; exact this)
             obtain ⟨g5, gc5, rfl, hf5⟩ := own_form hown5 (L := putE L x) (by rw [HP.out, List.length_append, HKL.out.1]; rfl) (by rw [HP.out, List.append_nil]) (fun e => by have := (hnil5.1 e).1; cases this)
             have HF : Hid (OwnE w5 w.heap.size g5 gc5 (putE L x) ∧ Below w.heap.size w w5) := ⟨hf5.base (by have := HBW.out.size; omega), HBW.out.trans (hB5.mono HBW.out.size)⟩
             clear hown5 hgrow5 hnil5 hf5 hB5))
        go_wp2
        go_ret
        exact ⟨g5, gc5, rfl, HF.out.1, HF.out.2⟩
      · skip
        go_wp2_with (first
          | (at_builtin
             refine wpList_append_own _ rfl _ _ 26 rfl W.heap.size 30 i0 (.agg #[.int .i64 0, .int .i64 0, .int .i64 0, .int .i64 0]) 4 32 Try.underlying26 hi hz0 hz1 hz2 rfl (by decide) _ 0 [] rfl (World.ownsRow_made wq #[] 0 HBq.out.size (by decide) rfl) ⟨b, off, none⟩ k cap (cellsL (L.take k)) rfl (by rw [cellsL_len, HKL.out.1]) HW.out.news (oneL _) hc1.out hc2.out (by have := HBq.out.size; simp; omega) ?_
             intro v' w3 hown hgrow hnil
             obtain ⟨g, gc, rfl, hf⟩ := own_form hown (L := L.take k) (by rw [HKL.out.1, Nat.zero_add]) (List.nil_append _) (fun e => by have := (hnil.1 e).1; cases this)
             have hB3 : Below W.heap.size W w3 := (HBq.out.alloc HBq.out.size _).grown hgrow (by have := HBq.out.size; simp; omega) (fun x hx => by have hx' : some wq.heap.size = some x := hx; cases hx'; exact HBq.out.size)
             rw [HKL.out.1]
             have HO3 : Hid (w3.ownsRow W.heap.size 30 4 (.slice (some ⟨g, 0, none⟩) k gc) k (cellsL (L.take k))) := own_form2 hf HKL.out.1
             have HB3 : Hid (Below W.heap.size W w3) := hB3
             have HW3 : Hid (Lies w3 b (off + k * 4) (L.drop k)) := (HL.out.drop k).grow HbW.out hB3
             obtain ⟨e0, e1, e2, e3⟩ := HE.out w3 hB3
             clear hown hgrow hnil hf hB3))
        have hne3 := Later.any w3
        have u0 : ∀ s : Later w3, s.val.cell? ⟨w.heap.size, 0, none⟩ = some (.int .i64 x.a) := fun s => s.cell e0
        have u1 : ∀ s : Later w3, s.val.cell? ⟨w.heap.size, 1, none⟩ = some (.int .i64 x.b) := fun s => s.cell e1
        have u2 : ∀ s : Later w3, s.val.cell? ⟨w.heap.size, 2, none⟩ = some (.int .i64 x.c) := fun s => s.cell e2
        have u3 : ∀ s : Later w3, s.val.cell? ⟨w.heap.size, 3, none⟩ = some (.int .i64 x.d) := fun s => s.cell e3
        clear e0 e1 e2 e3
        refine wp_region_later (by kernel_rfl) (by kernel_rfl) ?_
        repeat (go_big_quiet_step (fail))
        refine wpQuiet_nil ?_
        rintro w3' ⟨s, hs⟩
        have hB3 : Below w3.heap.size w3 w3' := by rw [hs]; exact s.ok
        clear hs s u0 u1 u2 u3 hne3
        have HO3' : Hid (w3'.ownsRow W.heap.size 30 4 (.slice (some ⟨g, 0, none⟩) k gc) k (cellsL (L.take k))) := ownsRow_below HO3.out hB3
        have HB3' : Hid (Below W.heap.size W w3') := HB3.out.trans (hB3.mono HB3.out.size)
        obtain ⟨e0, e1, e2, e3⟩ := HE.out w3' HB3'.out
        clear hB3 HO3 HB3 HW3
        go_wp2_with (first
          | (at_builtin
             refine wpList_append_own _ rfl _ _ 26 rfl W.heap.size 30 i0 (.agg #[.int .i64 0, .int .i64 0, .int .i64 0, .int .i64 0]) 4 32 Try.underlying26 hi hz0 hz1 hz2 rfl (by decide) _ k _ rfl (HO3'.out.alloc _) ⟨w3'.heap.size, 0, none⟩ 1 1 (enc4 x) rfl rfl (World.news_of_block (heap_alloc_new _ _)) (by rw [← cellsL_one]; exact oneL _) hc3.out hc4.out (by have := HB3'.out.size; simp; omega) ?_
             intro v4 w4 hown4 hgrow4 hnil4
             have hB4 : Below W.heap.size W w4 := (HB3'.out.alloc HB3'.out.size _).grown hgrow4 (by have := HB3'.out.size; simp; omega) (fun x hx => by have := (HO3'.out.lt x hx).1; exact this)
             obtain ⟨g4, gc4, rfl, hf4⟩ := own_form hown4 (L := L.take k ++ [x]) (by rw [List.length_append, HKL.out.1]; rfl) (by rw [cellsL_append, cellsL_one]) (fun e => by have := (hnil4.1 e).1; cases this)
             have hl4 : (L.take k ++ [x]).length = k + 1 := by rw [List.length_append, HKL.out.1]; rfl
             rw [hl4]
             have HO4 : Hid (w4.ownsRow W.heap.size 30 4 (.slice (some ⟨g4, 0, none⟩) (k + 1) gc4) (k + 1) (cellsL (L.take k ++ [x]))) := own_form2 hf4 hl4
             have HB4 : Hid (Below W.heap.size W w4) := hB4
             have HW4 : Hid (Lies w4 b (off + k * 4) (L.drop k)) := (HL.out.drop k).grow HbW.out hB4
             clear hown4 hgrow4 hnil4 hf4 hB4 hl4 e0 e1 e2 e3)
          | (at_builtin
             first | refine wpList_append_own _ rfl _ _ 26 rfl W.heap.size 30 i0 (.agg #[.int .i64 0, .int .i64 0, .int .i64 0, .int .i64 0]) 4 32 Try.underlying26 hi hz0 hz1 hz2 rfl (by decide) _ (k + 1) _ rfl HO4.out ⟨b, off, none⟩ 0 _ [] rfl rfl (fun j u hu => by simp at hu) (fun u hu => by simp at hu) hc5.out hc6.out HB4.out.size ?_ | refine wpList_append_own _ rfl _ _ 26 rfl W.heap.size 30 i0 (.agg #[.int .i64 0, .int .i64 0, .int .i64 0, .int .i64 0]) 4 32 Try.underlying26 hi hz0 hz1 hz2 rfl (by decide) _ (k + 1) _ rfl HO4.out ⟨b, off + k * 4, none⟩ 0 _ [] rfl rfl (fun j u hu => by simp at hu) (fun u hu => by simp at hu) hc5.out hc6.out HB4.out.size ?_
             intro v5 w5 hown5 hgrow5 hnil5
             have hB5 : Below W.heap.size W w5 := HB4.out.grown hgrow5 HB4.out.size (fun x hx => by have := (HO4.out.lt x hx).1; exact this)
             obtain ⟨g5, gc5, rfl, hf5⟩ := own_form hown5 (L := putE L x) (by rw [HP.out, List.length_append, HKL.out.1]; rfl) (by rw [HP.out, List.append_nil]) (fun e => by have := (hnil5.1 e).1; cases this)
             have HF : Hid (OwnE w5 w.heap.size g5 gc5 (putE L x) ∧ Below w.heap.size w w5) := ⟨hf5.base (by have := HBW.out.size; omega), HBW.out.trans (hB5.mono HBW.out.size)⟩
             clear hown5 hgrow5 hnil5 hf5 hB5))
        go_wp2
        go_ret
        exact ⟨g5, gc5, rfl, HF.out.1, HF.out.2⟩
end Go.Proofs.Ytglnnocfdlachaa
