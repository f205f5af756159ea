/-
  The specification's putting of one op into a sequence. No condition but that the slice reads.
  The library's joining of two slices of elements end to end. No condition but that the slices read and are short.
  The library's sort of a slice of elements that the call owns. No condition but that the slice is short.
  The library's leaving out of equal neighbours in a slice of elements that the call owns. No condition but that the slice is short.
  The specification's merging of two sequences. No condition but that the slices read.
  The program's comparison of ops as a sort asks it, and what sorting and leaving out equal neighbours makes of two sequences. No condition.
  The program's merging of two sequences. No condition but that the slices read.
-/
import Derived.Test.YtjfciokpnhnhbaaSqI
import Derived.Test.YtjfciokpnhnhbaaEL
import Derived.Test.YtjfciokpnhnhbaaEEq
import Derived.Test.YtjfciokpnhnhbaaEvV
import Derived.Test.YtjfciokpnhnhbaaLib
import Derived.Sort.OwnSorted
import Derived.Lib.SliceRun
namespace Go.Proofs.Ytjfciokpnhnhbaa
open Go.RowKit
set_option linter.unusedVariables false

def ltS (x y : Ev) : Bool := decide (x.a < y.a)
def idS (x y : Ev) : Bool := x.a == y.a
/-- a list of ops with one more, by rising Id -/
def putS : List Ev → Ev → List Ev
  | [], s => [s]
  | x :: l, s => if ltS x s = true then x :: putS l s else if idS x s = true then x :: l else s :: x :: l

/-- what putS is where the first k stand ltS and the next does not -/
theorem putS_at (s : Ev) : ∀ (L : List Ev) (k : Nat), k ≤ L.length → (∀ i, i < k → ltS (L.getD i evZ) s = true) → (k < L.length → ltS (L.getD k evZ) s = false) →
    putS L s = if k < L.length ∧ idS (L.getD k evZ) s = true then L else L.take k ++ [s] ++ L.drop k
  | [], k, hk, _, _ => by
    obtain rfl : k = 0 := by simpa using hk
    simp [putS]
  | x :: l, 0, _, _, h0 => by
    have hx : ltS x s = false := h0 (Nat.zero_lt_succ _)
    unfold putS
    rw [if_neg (by rw [hx]; decide)]
    by_cases e : idS x s = true
    · rw [if_pos e, if_pos ⟨Nat.zero_lt_succ _, e⟩]
    · rw [if_neg e, if_neg (fun h => e h.2)]
      rfl
  | x :: l, k + 1, hk, hi, h0 => by
    have hx : ltS x s = true := hi 0 (Nat.zero_lt_succ _)
    have ih := putS_at s l k (by simpa using hk) (fun i h => by simpa using hi (i + 1) (by omega)) (fun h => by simpa using h0 (by simp; omega))
    rw [show putS (x :: l) s = x :: putS l s by rw [putS, if_pos hx], ih]
    by_cases c : k < l.length ∧ idS (l.getD k evZ) s = true
    · rw [if_pos c, if_pos ⟨by simp; omega, by simpa using c.2⟩]
    · rw [if_neg c, if_neg (fun h => c ⟨by have := h.1; simp at this; omega, by simpa using h.2⟩)]
      simp

set_option maxRecDepth 10000 in
set_option maxHeartbeats 8000000 in
theorem put_any (b off cap : Nat) (L : List Ev) (x : Ev) (w : World) (h : Lies w b off L) (hb : b < w.heap.size) (hl : L.length ≤ cap) (hc : cap ≤ 9223372036854775807) (h1 : L.length ≤ 2000000) :
    Calls Try.prog 46 #[.slice (some ⟨b, off, none⟩) L.length cap, .agg #[.int .i64 (x).a, .int .i64 (x).b, .int .i64 (x).c, .string (x).d]] w fun e w' => ∃ g gc, e = .returned (.slice (some ⟨g, 0, none⟩) (putS L x).length gc) ∧ OwnE w' w.heap.size g gc (putS L x) ∧ Below w.heap.size w w' := by
  obtain ⟨i0, hi, hz0, hz1, hz2⟩ := info_parts infoE
  obtain ⟨n, hn⟩ : ∃ n, n = L.length := ⟨_, rfl⟩
  have HL0 : Hid (Lies w b off L) := h
  rw [← hn] at hl h1 ⊢
  have HN : Hid (n = L.length) := hn
  clear h hn
  go_enter Try.func46, Try.ntmps46
  go_wp2
  obtain ⟨W, hW⟩ : ∃ W, W = w.alloc (.cells #[.int .i64 x.a, .int .i64 x.b, .int .i64 x.c, .string x.d] 36) := ⟨_, rfl⟩
  rw [← hW]
  have hBW : Below w.heap.size w W := by rw [hW]; exact (Below.refl _ _).alloc (Nat.le_refl _) _
  have hWs : W.heap.size = w.heap.size + 1 := by rw [hW]; simp
  have g1 : W.heap[w.heap.size]? = some (.cells #[.int .i64 x.a, .int .i64 x.b, .int .i64 x.c, .string x.d] 36) := by rw [hW]; exact heap_alloc_new _ _
  have HBW : Hid (Below w.heap.size w W) := hBW
  have HL : Hid (Lies W b off L) := HL0.out.grow hb hBW
  have HbW : Hid (b < W.heap.size) := by show _ < _; omega
  have HE : Hid (∀ w', Below W.heap.size W w' → w'.cell? ⟨w.heap.size, 0, none⟩ = some (.int .i64 x.a) ∧ w'.cell? ⟨w.heap.size, 1, none⟩ = some (.int .i64 x.b) ∧ w'.cell? ⟨w.heap.size, 2, none⟩ = some (.int .i64 x.c) ∧ w'.cell? ⟨w.heap.size, 3, none⟩ = some (.string x.d)) := by
    intro w' hB
    have hh := (hB.block _ (lt_of_block g1)).trans g1
    exact ⟨cellN hh, cellN hh, cellN hh, cellN hh⟩
  clear hW hBW hWs g1 HL0
  go_loopw [5] (fun i wr => ∃ (k : Nat), k ≤ n ∧ i = .int .i64 k ∧ Hid (∀ j, j < k → ltS (L.getD j evZ) x = true) ∧ Below W.heap.size W wr) (fun i _ => n - (Go.RowKit.intOf i).toNat)
  case atStart => exact ⟨0, Nat.zero_le _, rfl, fun j hj => absurd hj (Nat.not_lt_zero _), Below.refl _ _⟩
  case round =>
    obtain ⟨k, hk, rfl, HR, hB⟩ := hrel
    have HB : Hid (Below W.heap.size W wr) := hB
    have hne := Later.any wr
    have HEs : Hid (_) := HE.out wr hB
    by_cases hlt : k < n
    · have hltI : (k : Int) < (n : Int) := by omega
      obtain ⟨y, hy⟩ : ∃ y, y = L.getD k evZ := ⟨_, rfl⟩
      have m1 : EvAt wr b (off + k * 4) y := by rw [hy]; exact (HL.out k (by rw [← HN.out]; exact hlt)).grow HbW.out hB
      have HQ : Hid (∀ w', Below W.heap.size W w' → w'.cell? ⟨b, off + k * 4, none⟩ = some (.int .i64 y.a) ∧ w'.cell? ⟨b, off + k * 4 + 1, none⟩ = some (.int .i64 y.b) ∧ w'.cell? ⟨b, off + k * 4 + 2, none⟩ = some (.int .i64 y.c) ∧ w'.cell? ⟨b, off + k * 4 + 3, none⟩ = some (.string y.d)) := by
        intro w' hB'
        obtain ⟨a0, a1, a2, a3⟩ := (HL.out k (by rw [← HN.out]; exact hlt)).grow HbW.out hB'
        rw [← hy] at a0 a1 a2 a3
        exact ⟨a0, a1, a2, a3⟩
      have HY : Hid (y = L.getD k evZ) := hy
      have q0 : ∀ s : Later wr, s.val.cell? ⟨b, off + k * 4, none⟩ = some (.int .i64 y.a) := fun s => s.cell m1.c0
      have q1 : ∀ s : Later wr, s.val.cell? ⟨b, off + k * 4 + 1, none⟩ = some (.int .i64 y.b) := fun s => s.cell m1.c1
      have q2 : ∀ s : Later wr, s.val.cell? ⟨b, off + k * 4 + 2, none⟩ = some (.int .i64 y.c) := fun s => s.cell m1.c2
      have q3 : ∀ s : Later wr, s.val.cell? ⟨b, off + k * 4 + 3, none⟩ = some (.string y.d) := fun s => s.cell m1.c3
      have p0 : ∀ s : Later wr, s.val.cell? ⟨w.heap.size, 0, none⟩ = some (.int .i64 x.a) := fun s => s.cell HEs.out.1
      have p1 : ∀ s : Later wr, s.val.cell? ⟨w.heap.size, 1, none⟩ = some (.int .i64 x.b) := fun s => s.cell HEs.out.2.1
      have p2 : ∀ s : Later wr, s.val.cell? ⟨w.heap.size, 2, none⟩ = some (.int .i64 x.c) := fun s => s.cell HEs.out.2.2.1
      have p3 : ∀ s : Later wr, s.val.cell? ⟨w.heap.size, 3, none⟩ = some (.string x.d) := fun s => s.cell HEs.out.2.2.2
      clear m1 hB hy
      cases hq : ltS y x with
      | true =>
        have hq1 : y.a < x.a := by unfold ltS at hq; simpa using hq
        have HR' : Hid (∀ j, j < k + 1 → ltS (L.getD j evZ) x = true) := by
          intro j hj
          rcases Nat.lt_succ_iff_lt_or_eq.1 hj with h1 | rfl
          · exact HR.out j h1
          · rw [← HY.out]; exact hq
        go_wp2
        refine wp_region_later (by kernel_rfl) (by kernel_rfl) ?_
        repeat (go_big_quiet_step (fail))
        refine wpQuiet_nil ?_
        rintro _ ⟨⟨w', hB2⟩, rfl⟩
        go_wp2
        go_roundw
        case rel => exact ⟨k + 1, by omega, by go_num, HR', HB.out.trans (hB2.mono HB.out.size)⟩
        case measure => simp [Go.RowKit.intOf]; omega
      | false =>
        have hq1 : decide (y.a < x.a) = false := by unfold ltS at hq; exact hq
        have hn := HN.out
        have hat := putS_at x L k (by omega) HR.out (fun _ => by rw [← HY.out]; exact hq)
        have hkl : (L.take k).length = k := by rw [List.length_take]; omega
        have hdl : (L.drop k).length = n - k := by rw [List.length_drop]; omega
        have HKL : Hid ((L.take k).length = k ∧ (L.drop k).length = n - k) := ⟨hkl, hdl⟩
        cases he : idS y x with
        | true =>
          have HP : Hid (putS L x = L) := by
            show _ = _
            rw [hat, if_pos ⟨by omega, by rw [← HY.out]; exact he⟩]
          clear hat
          clear hkl hdl hn
          go_wp2
          refine wp_region_later (by kernel_rfl) (by kernel_rfl) ?_
          repeat (go_big_quiet_step (fail))
          refine wpQuiet_nil ?_
          rintro wq ⟨s, hs⟩
          have hBq0 : Below wr.heap.size wr wq := by rw [hs]; exact s.ok
          clear hs s
          have HBq : Hid (Below W.heap.size W wq) := HB.out.trans (hBq0.mono HB.out.size)
          clear hBq0
          have hc1 : Hid (0 + k ≤ maxLen) := by show _ ≤ _; unfold maxLen; omega
          have hc2 : Hid ((0 + k) * 40 ≤ 140737488355328) := by show _ ≤ _; omega
          have hc3 : Hid (k + 1 ≤ maxLen) := by show _ ≤ _; unfold maxLen; omega
          have hc4 : Hid ((k + 1) * 40 ≤ 140737488355328) := by show _ ≤ _; omega
          have hc5 : Hid (k + 1 + (n - k) ≤ maxLen) := by show _ ≤ _; unfold maxLen; omega
          have hc6 : Hid ((k + 1 + (n - k)) * 40 ≤ 140737488355328) := by show _ ≤ _; omega
          have hc7 : Hid (k + (n - k) ≤ maxLen) := by show _ ≤ _; unfold maxLen; omega
          have hc8 : Hid ((k + (n - k)) * 40 ≤ 140737488355328) := by show _ ≤ _; omega
          have HW : Hid (Lies (wq.alloc (.cells #[] 36)) b off (L.take k)) := (HL.out.take k).grow HbW.out (HBq.out.alloc HBq.out.size _)
          clear q0 q1 q2 q3 p0 p1 p2 p3
          go_wp2_with (first
            | (at_builtin
               refine wpList_append_own _ rfl _ _ 24 rfl W.heap.size 36 i0 (.agg #[.int .i64 0, .int .i64 0, .int .i64 0, .string ⟨#[]⟩]) 4 40 Try.underlying24 hi hz0 hz1 hz2 rfl (by decide) _ 0 [] rfl (World.ownsRow_made wq #[] 0 HBq.out.size (by decide) rfl) ⟨b, off, none⟩ k cap (cellsL (L.take k)) rfl (by rw [cellsL_len, HKL.out.1]) HW.out.news (oneL _) hc1.out hc2.out (by have := HBq.out.size; simp; omega) ?_
               intro v' w3 hown hgrow hnil
               obtain ⟨g, gc, rfl, hf⟩ := own_form hown (L := L.take k) (by rw [HKL.out.1, Nat.zero_add]) (List.nil_append _) (fun e => by have := (hnil.1 e).1; cases this)
               have hB3 : Below W.heap.size W w3 := (HBq.out.alloc HBq.out.size _).grown hgrow (by have := HBq.out.size; simp; omega) (fun x hx => by have hx' : some wq.heap.size = some x := hx; cases hx'; exact HBq.out.size)
               rw [HKL.out.1]
               have HO3 : Hid (w3.ownsRow W.heap.size 36 4 (.slice (some ⟨g, 0, none⟩) k gc) k (cellsL (L.take k))) := own_form2 hf HKL.out.1
               have HB3 : Hid (Below W.heap.size W w3) := hB3
               have HW3 : Hid (Lies w3 b (off + k * 4) (L.drop k)) := (HL.out.drop k).grow HbW.out hB3
               obtain ⟨e0, e1, e2, e3⟩ := HE.out w3 hB3
               obtain ⟨f0, f1, f2, f3⟩ := HQ.out w3 hB3
               clear hown hgrow hnil hf hB3))
          have hne3 := Later.any w3
          have u0 : ∀ s : Later w3, s.val.cell? ⟨w.heap.size, 0, none⟩ = some (.int .i64 x.a) := fun s => s.cell e0
          have v0 : ∀ s : Later w3, s.val.cell? ⟨b, off + k * 4, none⟩ = some (.int .i64 y.a) := fun s => s.cell f0
          have u1 : ∀ s : Later w3, s.val.cell? ⟨w.heap.size, 1, none⟩ = some (.int .i64 x.b) := fun s => s.cell e1
          have v1 : ∀ s : Later w3, s.val.cell? ⟨b, off + k * 4 + 1, none⟩ = some (.int .i64 y.b) := fun s => s.cell f1
          have u2 : ∀ s : Later w3, s.val.cell? ⟨w.heap.size, 2, none⟩ = some (.int .i64 x.c) := fun s => s.cell e2
          have v2 : ∀ s : Later w3, s.val.cell? ⟨b, off + k * 4 + 2, none⟩ = some (.int .i64 y.c) := fun s => s.cell f2
          have u3 : ∀ s : Later w3, s.val.cell? ⟨w.heap.size, 3, none⟩ = some (.string x.d) := fun s => s.cell e3
          have v3 : ∀ s : Later w3, s.val.cell? ⟨b, off + k * 4 + 3, none⟩ = some (.string y.d) := fun s => s.cell f3
          have hql : (y.a == x.a) = true := by unfold idS at he; exact he
          clear f0 f1 f2 f3 e0 e1 e2 e3
          refine wp_region_later (by kernel_rfl) (by kernel_rfl) ?_
          repeat (go_big_quiet_step (fail))
          refine wpQuiet_nil ?_
          rintro w3' ⟨s, hs⟩
          have hB3 : Below w3.heap.size w3 w3' := by rw [hs]; exact s.ok
          clear hs s u0 u1 u2 u3 v0 v1 v2 v3 hql hne3
          have HO3' : Hid (w3'.ownsRow W.heap.size 36 4 (.slice (some ⟨g, 0, none⟩) k gc) k (cellsL (L.take k))) := ownsRow_below HO3.out hB3
          have HB3' : Hid (Below W.heap.size W w3') := HB3.out.trans (hB3.mono HB3.out.size)
          have HW3' : Hid (Lies w3' b (off + k * 4) (L.drop k)) := (HL.out.drop k).grow HbW.out HB3'.out
          obtain ⟨e0, e1, e2, e3⟩ := HE.out w3' HB3'.out
          clear hB3 HO3 HB3 HW3
          go_wp2_with (first
            | (at_builtin
               refine wpList_append_own _ rfl _ _ 24 rfl W.heap.size 36 i0 (.agg #[.int .i64 0, .int .i64 0, .int .i64 0, .string ⟨#[]⟩]) 4 40 Try.underlying24 hi hz0 hz1 hz2 rfl (by decide) _ k _ rfl HO3'.out ⟨b, off + k * 4, none⟩ (n - k) (cap - k) (cellsL (L.drop k)) rfl (by rw [cellsL_len, HKL.out.2]) HW3'.out.news (oneL _) hc7.out hc8.out HB3'.out.size ?_
               intro v5 w5 hown5 hgrow5 hnil5
               have hB5 : Below W.heap.size W w5 := HB3'.out.grown hgrow5 HB3'.out.size (fun x hx => by have := (HO3'.out.lt x hx).1; exact this)
               obtain ⟨g5, gc5, rfl, hf5⟩ := own_form hown5 (L := putS L x) (by have h := HN.out; rw [HP.out]; omega) (by rw [HP.out, ← cellsL_append, List.take_append_drop]) (fun e => by have := (hnil5.1 e).1; cases this)
               have HF : Hid (OwnE w5 w.heap.size g5 gc5 (putS L x) ∧ Below w.heap.size w w5) := ⟨hf5.base (by have := HBW.out.size; omega), HBW.out.trans (hB5.mono HBW.out.size)⟩
               clear hown5 hgrow5 hnil5 hf5 hB5))
          go_wp2
          go_ret
          exact ⟨g5, gc5, rfl, HF.out.1, HF.out.2⟩
        | false =>
          have HP : Hid (putS L x = L.take k ++ [x] ++ L.drop k) := by
            show _ = _
            rw [hat, if_neg (fun h => by have h2 := h.2; rw [← HY.out, he] at h2; cases h2)]
          clear hat
          clear hkl hdl hn
          go_wp2
          refine wp_region_later (by kernel_rfl) (by kernel_rfl) ?_
          repeat (go_big_quiet_step (fail))
          refine wpQuiet_nil ?_
          rintro wq ⟨s, hs⟩
          have hBq0 : Below wr.heap.size wr wq := by rw [hs]; exact s.ok
          clear hs s
          have HBq : Hid (Below W.heap.size W wq) := HB.out.trans (hBq0.mono HB.out.size)
          clear hBq0
          have hc1 : Hid (0 + k ≤ maxLen) := by show _ ≤ _; unfold maxLen; omega
          have hc2 : Hid ((0 + k) * 40 ≤ 140737488355328) := by show _ ≤ _; omega
          have hc3 : Hid (k + 1 ≤ maxLen) := by show _ ≤ _; unfold maxLen; omega
          have hc4 : Hid ((k + 1) * 40 ≤ 140737488355328) := by show _ ≤ _; omega
          have hc5 : Hid (k + 1 + (n - k) ≤ maxLen) := by show _ ≤ _; unfold maxLen; omega
          have hc6 : Hid ((k + 1 + (n - k)) * 40 ≤ 140737488355328) := by show _ ≤ _; omega
          have hc7 : Hid (k + (n - k) ≤ maxLen) := by show _ ≤ _; unfold maxLen; omega
          have hc8 : Hid ((k + (n - k)) * 40 ≤ 140737488355328) := by show _ ≤ _; omega
          have HW : Hid (Lies (wq.alloc (.cells #[] 36)) b off (L.take k)) := (HL.out.take k).grow HbW.out (HBq.out.alloc HBq.out.size _)
          clear q0 q1 q2 q3 p0 p1 p2 p3
          go_wp2_with (first
            | (at_builtin
               refine wpList_append_own _ rfl _ _ 24 rfl W.heap.size 36 i0 (.agg #[.int .i64 0, .int .i64 0, .int .i64 0, .string ⟨#[]⟩]) 4 40 Try.underlying24 hi hz0 hz1 hz2 rfl (by decide) _ 0 [] rfl (World.ownsRow_made wq #[] 0 HBq.out.size (by decide) rfl) ⟨b, off, none⟩ k cap (cellsL (L.take k)) rfl (by rw [cellsL_len, HKL.out.1]) HW.out.news (oneL _) hc1.out hc2.out (by have := HBq.out.size; simp; omega) ?_
               intro v' w3 hown hgrow hnil
               obtain ⟨g, gc, rfl, hf⟩ := own_form hown (L := L.take k) (by rw [HKL.out.1, Nat.zero_add]) (List.nil_append _) (fun e => by have := (hnil.1 e).1; cases this)
               have hB3 : Below W.heap.size W w3 := (HBq.out.alloc HBq.out.size _).grown hgrow (by have := HBq.out.size; simp; omega) (fun x hx => by have hx' : some wq.heap.size = some x := hx; cases hx'; exact HBq.out.size)
               rw [HKL.out.1]
               have HO3 : Hid (w3.ownsRow W.heap.size 36 4 (.slice (some ⟨g, 0, none⟩) k gc) k (cellsL (L.take k))) := own_form2 hf HKL.out.1
               have HB3 : Hid (Below W.heap.size W w3) := hB3
               have HW3 : Hid (Lies w3 b (off + k * 4) (L.drop k)) := (HL.out.drop k).grow HbW.out hB3
               obtain ⟨e0, e1, e2, e3⟩ := HE.out w3 hB3
               obtain ⟨f0, f1, f2, f3⟩ := HQ.out w3 hB3
               clear hown hgrow hnil hf hB3))
          have hne3 := Later.any w3
          have u0 : ∀ s : Later w3, s.val.cell? ⟨w.heap.size, 0, none⟩ = some (.int .i64 x.a) := fun s => s.cell e0
          have v0 : ∀ s : Later w3, s.val.cell? ⟨b, off + k * 4, none⟩ = some (.int .i64 y.a) := fun s => s.cell f0
          have u1 : ∀ s : Later w3, s.val.cell? ⟨w.heap.size, 1, none⟩ = some (.int .i64 x.b) := fun s => s.cell e1
          have v1 : ∀ s : Later w3, s.val.cell? ⟨b, off + k * 4 + 1, none⟩ = some (.int .i64 y.b) := fun s => s.cell f1
          have u2 : ∀ s : Later w3, s.val.cell? ⟨w.heap.size, 2, none⟩ = some (.int .i64 x.c) := fun s => s.cell e2
          have v2 : ∀ s : Later w3, s.val.cell? ⟨b, off + k * 4 + 2, none⟩ = some (.int .i64 y.c) := fun s => s.cell f2
          have u3 : ∀ s : Later w3, s.val.cell? ⟨w.heap.size, 3, none⟩ = some (.string x.d) := fun s => s.cell e3
          have v3 : ∀ s : Later w3, s.val.cell? ⟨b, off + k * 4 + 3, none⟩ = some (.string y.d) := fun s => s.cell f3
          have hql : (y.a == x.a) = false := by unfold idS at he; exact he
          clear f0 f1 f2 f3 e0 e1 e2 e3
          refine wp_region_later (by kernel_rfl) (by kernel_rfl) ?_
          repeat (go_big_quiet_step (fail))
          refine wpQuiet_nil ?_
          rintro w3' ⟨s, hs⟩
          have hB3 : Below w3.heap.size w3 w3' := by rw [hs]; exact s.ok
          clear hs s u0 u1 u2 u3 v0 v1 v2 v3 hql hne3
          have HO3' : Hid (w3'.ownsRow W.heap.size 36 4 (.slice (some ⟨g, 0, none⟩) k gc) k (cellsL (L.take k))) := ownsRow_below HO3.out hB3
          have HB3' : Hid (Below W.heap.size W w3') := HB3.out.trans (hB3.mono HB3.out.size)
          have HW3' : Hid (Lies w3' b (off + k * 4) (L.drop k)) := (HL.out.drop k).grow HbW.out HB3'.out
          obtain ⟨e0, e1, e2, e3⟩ := HE.out w3' HB3'.out
          clear hB3 HO3 HB3 HW3
          go_wp2_with (first
            | (at_builtin
               refine wpList_append_own _ rfl _ _ 24 rfl W.heap.size 36 i0 (.agg #[.int .i64 0, .int .i64 0, .int .i64 0, .string ⟨#[]⟩]) 4 40 Try.underlying24 hi hz0 hz1 hz2 rfl (by decide) _ k _ rfl (HO3'.out.alloc _) ⟨w3'.heap.size, 0, none⟩ 1 1 (enc4 x) rfl rfl (World.news_of_block (heap_alloc_new _ _)) (by rw [← cellsL_one]; exact oneL _) hc3.out hc4.out (by have := HB3'.out.size; simp; omega) ?_
               intro v4 w4 hown4 hgrow4 hnil4
               have hB4 : Below W.heap.size W w4 := (HB3'.out.alloc HB3'.out.size _).grown hgrow4 (by have := HB3'.out.size; simp; omega) (fun x hx => by have := (HO3'.out.lt x hx).1; exact this)
               obtain ⟨g4, gc4, rfl, hf4⟩ := own_form hown4 (L := L.take k ++ [x]) (by rw [List.length_append, HKL.out.1]; rfl) (by rw [cellsL_append, cellsL_one]) (fun e => by have := (hnil4.1 e).1; cases this)
               have hl4 : (L.take k ++ [x]).length = k + 1 := by rw [List.length_append, HKL.out.1]; rfl
               rw [hl4]
               have HO4 : Hid (w4.ownsRow W.heap.size 36 4 (.slice (some ⟨g4, 0, none⟩) (k + 1) gc4) (k + 1) (cellsL (L.take k ++ [x]))) := own_form2 hf4 hl4
               have HB4 : Hid (Below W.heap.size W w4) := hB4
               have HW4 : Hid (Lies w4 b (off + k * 4) (L.drop k)) := (HL.out.drop k).grow HbW.out hB4
               clear hown4 hgrow4 hnil4 hf4 hB4 hl4 e0 e1 e2 e3)
            | (at_builtin
               refine wpList_append_own _ rfl _ _ 24 rfl W.heap.size 36 i0 (.agg #[.int .i64 0, .int .i64 0, .int .i64 0, .string ⟨#[]⟩]) 4 40 Try.underlying24 hi hz0 hz1 hz2 rfl (by decide) _ (k + 1) _ rfl HO4.out ⟨b, off + k * 4, none⟩ (n - k) (cap - k) (cellsL (L.drop k)) rfl (by rw [cellsL_len, HKL.out.2]) HW4.out.news (oneL _) hc5.out hc6.out HB4.out.size ?_
               intro v5 w5 hown5 hgrow5 hnil5
               have hB5 : Below W.heap.size W w5 := HB4.out.grown hgrow5 HB4.out.size (fun x hx => by have := (HO4.out.lt x hx).1; exact this)
               obtain ⟨g5, gc5, rfl, hf5⟩ := own_form hown5 (L := putS L x) (by rw [HP.out, List.length_append, List.length_append, HKL.out.1, HKL.out.2]; rfl) (by rw [HP.out, cellsL_append (L.take k ++ [x])]) (fun e => by have := (hnil5.1 e).1; cases this)
               have HF : Hid (OwnE w5 w.heap.size g5 gc5 (putS L x) ∧ Below w.heap.size w w5) := ⟨hf5.base (by have := HBW.out.size; omega), HBW.out.trans (hB5.mono HBW.out.size)⟩
               clear hown5 hgrow5 hnil5 hf5 hB5))
          go_wp2
          go_ret
          exact ⟨g5, gc5, rfl, HF.out.1, HF.out.2⟩
    · have hke : k = n := by omega
      subst hke
      have hkd : decide ((k : Int) < (k : Int)) = false := by simp
      have hn := HN.out
      have HP : Hid (putS L x = L.take k ++ [x]) := by
        show _ = _
        rw [putS_at x L k (by omega) HR.out (fun h => by omega), if_neg (fun h => by omega), List.drop_eq_nil_of_le (by omega), List.append_nil]
      have hkl : (L.take k).length = k := by rw [List.length_take]; omega
      have hdl : (L.drop k).length = 0 := by rw [List.length_drop]; omega
      have HKL : Hid ((L.take k).length = k ∧ (L.drop k).length = 0) := ⟨hkl, hdl⟩
      clear hB
      clear hkl hdl hn
      go_wp2
      refine wp_region_later (by kernel_rfl) (by kernel_rfl) ?_
      repeat (go_big_quiet_step (fail))
      refine wpQuiet_nil ?_
      rintro wq ⟨s, hs⟩
      have hBq0 : Below wr.heap.size wr wq := by rw [hs]; exact s.ok
      clear hs s
      have HBq : Hid (Below W.heap.size W wq) := HB.out.trans (hBq0.mono HB.out.size)
      clear hBq0
      have hc1 : Hid (0 + k ≤ maxLen) := by show _ ≤ _; unfold maxLen; omega
      have hc2 : Hid ((0 + k) * 40 ≤ 140737488355328) := by show _ ≤ _; omega
      have hc3 : Hid (k + 1 ≤ maxLen) := by show _ ≤ _; unfold maxLen; omega
      have hc4 : Hid ((k + 1) * 40 ≤ 140737488355328) := by show _ ≤ _; omega
      have hc5 : Hid (k + 1 + 0 ≤ maxLen) := by show _ ≤ _; unfold maxLen; omega
      have hc6 : Hid ((k + 1 + 0) * 40 ≤ 140737488355328) := by show _ ≤ _; omega
      have hc7 : Hid (k + 0 ≤ maxLen) := by show _ ≤ _; unfold maxLen; omega
      have hc8 : Hid ((k + 0) * 40 ≤ 140737488355328) := by show _ ≤ _; omega
      have HW : Hid (Lies (wq.alloc (.cells #[] 36)) b off (L.take k)) := (HL.out.take k).grow HbW.out (HBq.out.alloc HBq.out.size _)
      by_cases hcap : cap = k
      · have hkc : k = cap := hcap.symm
        clear hcap
        subst hkc
        go_wp2_with (first
          | (at_builtin
             refine wpList_append_own _ rfl _ _ 24 rfl W.heap.size 36 i0 (.agg #[.int .i64 0, .int .i64 0, .int .i64 0, .string ⟨#[]⟩]) 4 40 Try.underlying24 hi hz0 hz1 hz2 rfl (by decide) _ 0 [] rfl (World.ownsRow_made wq #[] 0 HBq.out.size (by decide) rfl) ⟨b, off, none⟩ k k (cellsL (L.take k)) rfl (by rw [cellsL_len, HKL.out.1]) HW.out.news (oneL _) hc1.out hc2.out (by have := HBq.out.size; simp; omega) ?_
             intro v' w3 hown hgrow hnil
             obtain ⟨g, gc, rfl, hf⟩ := own_form hown (L := L.take k) (by rw [HKL.out.1, Nat.zero_add]) (List.nil_append _) (fun e => by have := (hnil.1 e).1; cases this)
             have hB3 : Below W.heap.size W w3 := (HBq.out.alloc HBq.out.size _).grown hgrow (by have := HBq.out.size; simp; omega) (fun x hx => by have hx' : some wq.heap.size = some x := hx; cases hx'; exact HBq.out.size)
             rw [HKL.out.1]
             have HO3 : Hid (w3.ownsRow W.heap.size 36 4 (.slice (some ⟨g, 0, none⟩) k gc) k (cellsL (L.take k))) := own_form2 hf HKL.out.1
             have HB3 : Hid (Below W.heap.size W w3) := hB3
             have HW3 : Hid (Lies w3 b (off + k * 4) (L.drop k)) := (HL.out.drop k).grow HbW.out hB3
             obtain ⟨e0, e1, e2, e3⟩ := HE.out w3 hB3
             clear hown hgrow hnil hf hB3))
        have hne3 := Later.any w3
        have u0 : ∀ s : Later w3, s.val.cell? ⟨w.heap.size, 0, none⟩ = some (.int .i64 x.a) := fun s => s.cell e0
        have u1 : ∀ s : Later w3, s.val.cell? ⟨w.heap.size, 1, none⟩ = some (.int .i64 x.b) := fun s => s.cell e1
        have u2 : ∀ s : Later w3, s.val.cell? ⟨w.heap.size, 2, none⟩ = some (.int .i64 x.c) := fun s => s.cell e2
        have u3 : ∀ s : Later w3, s.val.cell? ⟨w.heap.size, 3, none⟩ = some (.string x.d) := fun s => s.cell e3
        clear e0 e1 e2 e3
        refine wp_region_later (by kernel_rfl) (by kernel_rfl) ?_
        repeat (go_big_quiet_step (fail))
        refine wpQuiet_nil ?_
        rintro w3' ⟨s, hs⟩
        have hB3 : Below w3.heap.size w3 w3' := by rw [hs]; exact s.ok
        clear hs s u0 u1 u2 u3 hne3
        have HO3' : Hid (w3'.ownsRow W.heap.size 36 4 (.slice (some ⟨g, 0, none⟩) k gc) k (cellsL (L.take k))) := ownsRow_below HO3.out hB3
        have HB3' : Hid (Below W.heap.size W w3') := HB3.out.trans (hB3.mono HB3.out.size)
        obtain ⟨e0, e1, e2, e3⟩ := HE.out w3' HB3'.out
        clear hB3 HO3 HB3 HW3
        go_wp2_with (first
          | (at_builtin
             refine wpList_append_own _ rfl _ _ 24 rfl W.heap.size 36 i0 (.agg #[.int .i64 0, .int .i64 0, .int .i64 0, .string ⟨#[]⟩]) 4 40 Try.underlying24 hi hz0 hz1 hz2 rfl (by decide) _ k _ rfl (HO3'.out.alloc _) ⟨w3'.heap.size, 0, none⟩ 1 1 (enc4 x) rfl rfl (World.news_of_block (heap_alloc_new _ _)) (by rw [← cellsL_one]; exact oneL _) hc3.out hc4.out (by have := HB3'.out.size; simp; omega) ?_
             intro v4 w4 hown4 hgrow4 hnil4
             have hB4 : Below W.heap.size W w4 := (HB3'.out.alloc HB3'.out.size _).grown hgrow4 (by have := HB3'.out.size; simp; omega) (fun x hx => by have := (HO3'.out.lt x hx).1; exact this)
             obtain ⟨g4, gc4, rfl, hf4⟩ := own_form hown4 (L := L.take k ++ [x]) (by rw [List.length_append, HKL.out.1]; rfl) (by rw [cellsL_append, cellsL_one]) (fun e => by have := (hnil4.1 e).1; cases this)
             have hl4 : (L.take k ++ [x]).length = k + 1 := by rw [List.length_append, HKL.out.1]; rfl
             rw [hl4]
             have HO4 : Hid (w4.ownsRow W.heap.size 36 4 (.slice (some ⟨g4, 0, none⟩) (k + 1) gc4) (k + 1) (cellsL (L.take k ++ [x]))) := own_form2 hf4 hl4
             have HB4 : Hid (Below W.heap.size W w4) := hB4
             have HW4 : Hid (Lies w4 b (off + k * 4) (L.drop k)) := (HL.out.drop k).grow HbW.out hB4
             clear hown4 hgrow4 hnil4 hf4 hB4 hl4 e0 e1 e2 e3)
          | (at_builtin
             first | refine wpList_append_own _ rfl _ _ 24 rfl W.heap.size 36 i0 (.agg #[.int .i64 0, .int .i64 0, .int .i64 0, .string ⟨#[]⟩]) 4 40 Try.underlying24 hi hz0 hz1 hz2 rfl (by decide) _ (k + 1) _ rfl HO4.out ⟨b, off, none⟩ 0 _ [] rfl rfl (fun j u hu => by simp at hu) (fun u hu => by simp at hu) hc5.out hc6.out HB4.out.size ?_ | refine wpList_append_own _ rfl _ _ 24 rfl W.heap.size 36 i0 (.agg #[.int .i64 0, .int .i64 0, .int .i64 0, .string ⟨#[]⟩]) 4 40 Try.underlying24 hi hz0 hz1 hz2 rfl (by decide) _ (k + 1) _ rfl HO4.out ⟨b, off + k * 4, none⟩ 0 _ [] rfl rfl (fun j u hu => by simp at hu) (fun u hu => by simp at hu) hc5.out hc6.out HB4.out.size ?_
             intro v5 w5 hown5 hgrow5 hnil5
             have hB5 : Below W.heap.size W w5 := HB4.out.grown hgrow5 HB4.out.size (fun x hx => by have := (HO4.out.lt x hx).1; exact this)
             obtain ⟨g5, gc5, rfl, hf5⟩ := own_form hown5 (L := putS L x) (by rw [HP.out, List.length_append, HKL.out.1]; rfl) (by rw [HP.out, List.append_nil]) (fun e => by have := (hnil5.1 e).1; cases this)
             have HF : Hid (OwnE w5 w.heap.size g5 gc5 (putS L x) ∧ Below w.heap.size w w5) := ⟨hf5.base (by have := HBW.out.size; omega), HBW.out.trans (hB5.mono HBW.out.size)⟩
             clear hown5 hgrow5 hnil5 hf5 hB5))
        go_wp2
        go_ret
        exact ⟨g5, gc5, rfl, HF.out.1, HF.out.2⟩
      · skip
        go_wp2_with (first
          | (at_builtin
             refine wpList_append_own _ rfl _ _ 24 rfl W.heap.size 36 i0 (.agg #[.int .i64 0, .int .i64 0, .int .i64 0, .string ⟨#[]⟩]) 4 40 Try.underlying24 hi hz0 hz1 hz2 rfl (by decide) _ 0 [] rfl (World.ownsRow_made wq #[] 0 HBq.out.size (by decide) rfl) ⟨b, off, none⟩ k cap (cellsL (L.take k)) rfl (by rw [cellsL_len, HKL.out.1]) HW.out.news (oneL _) hc1.out hc2.out (by have := HBq.out.size; simp; omega) ?_
             intro v' w3 hown hgrow hnil
             obtain ⟨g, gc, rfl, hf⟩ := own_form hown (L := L.take k) (by rw [HKL.out.1, Nat.zero_add]) (List.nil_append _) (fun e => by have := (hnil.1 e).1; cases this)
             have hB3 : Below W.heap.size W w3 := (HBq.out.alloc HBq.out.size _).grown hgrow (by have := HBq.out.size; simp; omega) (fun x hx => by have hx' : some wq.heap.size = some x := hx; cases hx'; exact HBq.out.size)
             rw [HKL.out.1]
             have HO3 : Hid (w3.ownsRow W.heap.size 36 4 (.slice (some ⟨g, 0, none⟩) k gc) k (cellsL (L.take k))) := own_form2 hf HKL.out.1
             have HB3 : Hid (Below W.heap.size W w3) := hB3
             have HW3 : Hid (Lies w3 b (off + k * 4) (L.drop k)) := (HL.out.drop k).grow HbW.out hB3
             obtain ⟨e0, e1, e2, e3⟩ := HE.out w3 hB3
             clear hown hgrow hnil hf hB3))
        have hne3 := Later.any w3
        have u0 : ∀ s : Later w3, s.val.cell? ⟨w.heap.size, 0, none⟩ = some (.int .i64 x.a) := fun s => s.cell e0
        have u1 : ∀ s : Later w3, s.val.cell? ⟨w.heap.size, 1, none⟩ = some (.int .i64 x.b) := fun s => s.cell e1
        have u2 : ∀ s : Later w3, s.val.cell? ⟨w.heap.size, 2, none⟩ = some (.int .i64 x.c) := fun s => s.cell e2
        have u3 : ∀ s : Later w3, s.val.cell? ⟨w.heap.size, 3, none⟩ = some (.string x.d) := fun s => s.cell e3
        clear e0 e1 e2 e3
        refine wp_region_later (by kernel_rfl) (by kernel_rfl) ?_
        repeat (go_big_quiet_step (fail))
        refine wpQuiet_nil ?_
        rintro w3' ⟨s, hs⟩
        have hB3 : Below w3.heap.size w3 w3' := by rw [hs]; exact s.ok
        clear hs s u0 u1 u2 u3 hne3
        have HO3' : Hid (w3'.ownsRow W.heap.size 36 4 (.slice (some ⟨g, 0, none⟩) k gc) k (cellsL (L.take k))) := ownsRow_below HO3.out hB3
        have HB3' : Hid (Below W.heap.size W w3') := HB3.out.trans (hB3.mono HB3.out.size)
        obtain ⟨e0, e1, e2, e3⟩ := HE.out w3' HB3'.out
        clear hB3 HO3 HB3 HW3
        go_wp2_with (first
          | (at_builtin
             refine wpList_append_own _ rfl _ _ 24 rfl W.heap.size 36 i0 (.agg #[.int .i64 0, .int .i64 0, .int .i64 0, .string ⟨#[]⟩]) 4 40 Try.underlying24 hi hz0 hz1 hz2 rfl (by decide) _ k _ rfl (HO3'.out.alloc _) ⟨w3'.heap.size, 0, none⟩ 1 1 (enc4 x) rfl rfl (World.news_of_block (heap_alloc_new _ _)) (by rw [← cellsL_one]; exact oneL _) hc3.out hc4.out (by have := HB3'.out.size; simp; omega) ?_
             intro v4 w4 hown4 hgrow4 hnil4
             have hB4 : Below W.heap.size W w4 := (HB3'.out.alloc HB3'.out.size _).grown hgrow4 (by have := HB3'.out.size; simp; omega) (fun x hx => by have := (HO3'.out.lt x hx).1; exact this)
             obtain ⟨g4, gc4, rfl, hf4⟩ := own_form hown4 (L := L.take k ++ [x]) (by rw [List.length_append, HKL.out.1]; rfl) (by rw [cellsL_append, cellsL_one]) (fun e => by have := (hnil4.1 e).1; cases this)
             have hl4 : (L.take k ++ [x]).length = k + 1 := by rw [List.length_append, HKL.out.1]; rfl
             rw [hl4]
             have HO4 : Hid (w4.ownsRow W.heap.size 36 4 (.slice (some ⟨g4, 0, none⟩) (k + 1) gc4) (k + 1) (cellsL (L.take k ++ [x]))) := own_form2 hf4 hl4
             have HB4 : Hid (Below W.heap.size W w4) := hB4
             have HW4 : Hid (Lies w4 b (off + k * 4) (L.drop k)) := (HL.out.drop k).grow HbW.out hB4
             clear hown4 hgrow4 hnil4 hf4 hB4 hl4 e0 e1 e2 e3)
          | (at_builtin
             first | refine wpList_append_own _ rfl _ _ 24 rfl W.heap.size 36 i0 (.agg #[.int .i64 0, .int .i64 0, .int .i64 0, .string ⟨#[]⟩]) 4 40 Try.underlying24 hi hz0 hz1 hz2 rfl (by decide) _ (k + 1) _ rfl HO4.out ⟨b, off, none⟩ 0 _ [] rfl rfl (fun j u hu => by simp at hu) (fun u hu => by simp at hu) hc5.out hc6.out HB4.out.size ?_ | refine wpList_append_own _ rfl _ _ 24 rfl W.heap.size 36 i0 (.agg #[.int .i64 0, .int .i64 0, .int .i64 0, .string ⟨#[]⟩]) 4 40 Try.underlying24 hi hz0 hz1 hz2 rfl (by decide) _ (k + 1) _ rfl HO4.out ⟨b, off + k * 4, none⟩ 0 _ [] rfl rfl (fun j u hu => by simp at hu) (fun u hu => by simp at hu) hc5.out hc6.out HB4.out.size ?_
             intro v5 w5 hown5 hgrow5 hnil5
             have hB5 : Below W.heap.size W w5 := HB4.out.grown hgrow5 HB4.out.size (fun x hx => by have := (HO4.out.lt x hx).1; exact this)
             obtain ⟨g5, gc5, rfl, hf5⟩ := own_form hown5 (L := putS L x) (by rw [HP.out, List.length_append, HKL.out.1]; rfl) (by rw [HP.out, List.append_nil]) (fun e => by have := (hnil5.1 e).1; cases this)
             have HF : Hid (OwnE w5 w.heap.size g5 gc5 (putS L x) ∧ Below w.heap.size w w5) := ⟨hf5.base (by have := HBW.out.size; omega), HBW.out.trans (hB5.mono HBW.out.size)⟩
             clear hown5 hgrow5 hnil5 hf5 hB5))
        go_wp2
        go_ret
        exact ⟨g5, gc5, rfl, HF.out.1, HF.out.2⟩
end Go.Proofs.Ytjfciokpnhnhbaa

namespace Go.Proofs.Ytjfciokpnhnhbaa
open Go.RowKit Go.Lib
set_option linter.unusedVariables false

theorem zeroCells_size (cs : Array Value) (n : Nat) : (Builtin.zeroCells cs n).size = n * cs.size := by
  simp [Builtin.zeroCells]

theorem grow_any (n : Nat) (z : Int) (hz : z = (n : Int)) (w : World) (hn : n ≤ 1000000) :
    Calls Try.prog 57 #[.slice none 0 0, .int .i64 z] w fun e w' => ∃ v, e = .returned v ∧ OwnV w' w.heap.size v [] ∧ Below w.heap.size w w' := by
  subst hz
  obtain ⟨i0, hi, hz0, hz1, hz2⟩ := info_parts infoE
  by_cases h0 : n = 0
  · subst h0
    refine (Any8.slices_Grow_room Try.growE none 0 0 0 w (Nat.le_refl _) (by omega) (by omega) (by omega)).mono ?_
    rintro e w' ⟨rfl, hw⟩
    rw [hw]
    exact ⟨_, rfl, OwnV.nil _ _, Below.refl _ _⟩
  · have hk := Any8.slices_Grow_grow Try.growE i0 (.agg #[.int .i64 0, .int .i64 0, .int .i64 0, .string ⟨#[]⟩]) hi hz0 (by rw [hz1]; decide) none 0 0 n [] w (Nat.le_refl _) (by omega) (by rw [hz2]; omega) (by omega) (by simp) (fun _ => rfl) (fun a h => by cases h)
    refine hk.mono ?_
    rintro e w' ⟨rfl, hw⟩
    rw [hw]
    refine ⟨_, rfl, ?_, (Below.refl _ _).drew.alloc (Nat.le_refl _) _⟩
    have hc := grownCap_le_maxLen w (0 + n) 0 36 (by unfold maxLen; omega)
    have hg := grownCap_ge w (0 + n) 0 36
    refine ⟨rfl, .inr ⟨_, _, _, rfl, Nat.le_refl _, heap_alloc_new w.drew _, Nat.zero_le _, hc, ?_, by simp [cellsL]⟩⟩
    rw [Array.size_append, Array.size_append, zeroCells_size, zeroCells_size]
    show 0 + (0 + n - 0) * 4 + (grownCap w (0 + n) 0 36 - (0 + n)) * 4 = grownCap w (0 + n) 0 36 * 4
    omega

set_option maxRecDepth 10000 in
set_option maxHeartbeats 4000000 in
theorem concat_any (G b1 o1 c1 b2 o2 c2 : Nat) (A B : List Ev) (w : World) (g0 : w.cell? ⟨G, 0, none⟩ = some (.slice (some ⟨b1, o1, none⟩) A.length c1)) (g1 : w.cell? ⟨G, 1, none⟩ = some (.slice (some ⟨b2, o2, none⟩) B.length c2))
    (h1 : Lies w b1 o1 A) (hb1 : b1 < w.heap.size) (h2 : Lies w b2 o2 B) (hb2 : b2 < w.heap.size) (hA : A.length ≤ 1000) (hB : B.length ≤ 1000) :
    Calls Try.prog 40 #[.slice (some ⟨G, 0, none⟩) 2 2] w fun e w' => ∃ v, e = .returned v ∧ OwnV w' w.heap.size v (A ++ B) ∧ Below w.heap.size w w' := by
  obtain ⟨i0, hi, hz0, hz1, hz2⟩ := info_parts infoE
  have HL1 : Hid (Lies w b1 o1 A) := h1
  have HL2 : Hid (Lies w b2 o2 B) := h2
  have HG : Hid (∀ w', Below w.heap.size w w' → w'.cell? ⟨G, 0, none⟩ = some (.slice (some ⟨b1, o1, none⟩) A.length c1) ∧ w'.cell? ⟨G, 1, none⟩ = some (.slice (some ⟨b2, o2, none⟩) B.length c2)) := fun w' hB => ⟨(hB.cell (p := ⟨G, 0, none⟩) (cell_lt g0)).trans g0, (hB.cell (p := ⟨G, 1, none⟩) (cell_lt g0)).trans g1⟩
  clear h1 h2
  obtain ⟨n, hn⟩ : ∃ n, n = A.length := ⟨_, rfl⟩
  obtain ⟨m, hm⟩ : ∃ m, m = B.length := ⟨_, rfl⟩
  have HN : Hid (n = A.length) := hn
  have HM : Hid (m = B.length) := hm
  rw [← hn] at hA g0 HG
  rw [← hm] at hB g1 HG
  clear hn hm
  have k1 : 0 + n ≤ maxLen := by unfold maxLen; omega
  have k2 : (0 + n) * 40 ≤ 140737488355328 := by omega
  have k3 : n + m ≤ maxLen := by unfold maxLen; omega
  have k4 : (n + m) * 40 ≤ 140737488355328 := by omega
  have HK : Hid ((0 + n ≤ maxLen ∧ (0 + n) * 40 ≤ 140737488355328) ∧ (n + m ≤ maxLen ∧ (n + m) * 40 ≤ 140737488355328)) := ⟨⟨k1, k2⟩, k3, k4⟩
  clear k1 k2 k3 k4
  have s1 : decide ((n : Int) < 0) = false := decide_eq_false (by omega)
  have s2 : decide ((n : Int) + (m : Int) < 0) = false := decide_eq_false (by omega)
  go_enter Try.func40, Try.ntmps40
  go_wp2
  refine wp_loop_rounds 3 ?_
  rw [rounds_succ]; go_wp2
  rw [rounds_succ]; go_wp2
  rw [rounds_succ]
  go_wp2_with fail
  refine (grow_any (n + m) _ (by omega) w (by omega)).mono ?_
  rintro e w1 ⟨v1, rfl, hO1, hB1⟩
  have HO1 : Hid (OwnV w1 w.heap.size v1 []) := hO1
  have HB1 : Hid (Below w.heap.size w w1) := hB1
  have HS : Hid (w.heap.size ≤ w1.heap.size) := hB1.size
  have HW1 : Hid (Lies w1 b1 o1 A) := HL1.out.grow hb1 hB1
  obtain ⟨x0, x1⟩ := HG.out w1 hB1
  clear hO1 hB1
  go_wp2
  refine wp_loop_rounds 3 ?_
  rw [rounds_succ]
  go_wp2_with (at_builtin; refine wpList_append_own _ rfl _ _ 24 rfl w.heap.size 36 i0 (.agg #[.int .i64 0, .int .i64 0, .int .i64 0, .string ⟨#[]⟩]) 4 40 Try.underlying24 hi hz0 hz1 hz2 rfl (by decide) v1 0 [] rfl HO1.out ⟨b1, o1, none⟩ n c1 (cellsL A) rfl (by rw [cellsL_len, ← HN.out]) HW1.out.news (oneL _) HK.out.1.1 HK.out.1.2 HS.out ?_; intro v2 w2 hown hgrow _)
  have hO2 : OwnV w2 w.heap.size v2 A := by
    unfold OwnV
    have h := hown
    rw [Nat.zero_add, List.nil_append, HN.out] at h
    exact h
  have hB2 : Below w.heap.size w w2 := HB1.out.grown hgrow HB1.out.size (fun x hx => (World.ownsRow.lt HO1.out x hx).1)
  have HO2 : Hid (w2.ownsRow w.heap.size 36 4 v2 n (cellsL A)) := by
    have h := hO2
    unfold OwnV at h
    rw [← HN.out] at h
    exact h
  have HB2 : Hid (Below w.heap.size w w2) := hB2
  have HS2 : Hid (w.heap.size ≤ w2.heap.size) := hB2.size
  have HW2 : Hid (Lies w2 b2 o2 B) := HL2.out.grow hb2 hB2
  obtain ⟨y0, y1⟩ := HG.out w2 hB2
  clear hown hgrow hO2 hB2 x0 x1
  go_wp2
  rw [rounds_succ]
  go_wp2_with (at_builtin; refine wpList_append_own _ rfl _ _ 24 rfl w.heap.size 36 i0 (.agg #[.int .i64 0, .int .i64 0, .int .i64 0, .string ⟨#[]⟩]) 4 40 Try.underlying24 hi hz0 hz1 hz2 rfl (by decide) v2 n (cellsL A) rfl HO2.out ⟨b2, o2, none⟩ m c2 (cellsL B) rfl (by rw [cellsL_len, ← HM.out]) HW2.out.news (oneL _) HK.out.2.1 HK.out.2.2 HS2.out ?_; intro v3 w3 hown hgrow _)
  have hO3 : OwnV w3 w.heap.size v3 (A ++ B) := by
    unfold OwnV
    have h := hown
    rw [← cellsL_append] at h
    rw [List.length_append, ← HN.out, ← HM.out]
    exact h
  have hB3 : Below w.heap.size w w3 := HB2.out.grown hgrow HB2.out.size (fun x hx => (World.ownsRow.lt HO2.out x hx).1)
  have HF : Hid (OwnV w3 w.heap.size v3 (A ++ B) ∧ Below w.heap.size w w3) := ⟨hO3, hB3⟩
  clear hown hgrow hO3 hB3 y0 y1
  go_wp2
  rw [rounds_succ]
  go_wp2
  go_ret
  exact ⟨_, rfl, HF.out.1, HF.out.2⟩
end Go.Proofs.Ytjfciokpnhnhbaa

namespace Go.Proofs.Ytjfciokpnhnhbaa
open Go.RowKit Go.Lib Go.Sort Go.Shelf
set_option linter.unusedVariables false

theorem flat_list [Inhabited Ev] (L : List Ev) : (flatK enc4 4 L.toArray).toList = cellsL L := by
  apply List.ext_getElem?
  intro j
  by_cases hj : j < L.length * 4
  · obtain ⟨i, t, ht, rfl⟩ : ∃ i t, t < 4 ∧ j = i * 4 + t := ⟨j / 4, j % 4, Nat.mod_lt _ (by decide), by omega⟩
    have hi : i < L.length := by omega
    have e1 : (i * 4 + t) / 4 = i := by omega
    have e2 : (i * 4 + t) % 4 = t := by omega
    rw [cellsL_at L i t ht hi, Array.getElem?_toList]
    have hs : i * 4 + t < (flatK enc4 4 L.toArray).size := by rw [size_flatK]; simpa using hj
    have hg := get_flatK enc4 4 L.toArray (i * 4 + t) (by simpa using hj)
    rw [getElem!_pos (flatK enc4 4 L.toArray) (i * 4 + t) hs, e1, e2] at hg
    rw [Array.getElem?_eq_getElem hs, hg]
    have hx : L.toArray[i]! = L.getD i evZ := by
      rw [getElem!_pos L.toArray i (by simpa using hi)]
      simp [List.getD_eq_getElem?_getD, hi]
    rw [hx]
    have hl : t < (enc4 (L.getD i evZ)).length := ht
    rw [getElem!_pos (enc4 (L.getD i evZ)) t hl, List.getElem?_eq_getElem hl]
  · rw [List.getElem?_eq_none (by rw [Array.length_toList, size_flatK]; simpa using hj), List.getElem?_eq_none (by rw [cellsL_len]; omega)]

theorem holdsE [Inhabited Ev] {w : World} {g : Nat} {cur : Array Value} {e : TypeId} {L : List Ev} (hb : w.heap[g]? = some (.cells cur e (0, 0))) (ht : cur.toList.take (L.length * 4) = cellsL L) : HoldsK enc4 4 w g 0 L.toArray := by
  intro j hj
  have hj' : j < L.length * 4 := by rw [size_flatK] at hj; simpa using hj
  refine ⟨?_, by simp [World.frozen?, hb]⟩
  have h1 : (cur.toList.take (L.length * 4))[j]? = (flatK enc4 4 L.toArray).toList[j]? := by rw [ht, flat_list]
  rw [List.getElem?_take_of_lt hj', Array.getElem?_toList, Array.getElem?_toList, Array.getElem?_eq_getElem hj] at h1
  simp only [World.cell?, hb, Nat.zero_add]
  simp only [Option.isSome_none, Bool.false_eq_true, if_false]
  rw [h1, getElem!_pos (flatK enc4 4 L.toArray) j hj]
  rfl

theorem heapE [Inhabited Ev] {w : World} {g n : Nat} {os : Array Obj} {cur : Array Value} {e : TypeId} {fr : Nat × Nat} (d : Array Ev) (hb : w.heap[g]? = some (.cells cur e fr)) :
    (sortWorldK enc4 4 w g 0 n d os).heap[g]? = some (.cells (putCells id 0 (flatK enc4 4 d) cur) e fr) := by
  have hg : g < w.heap.size := (Array.getElem?_eq_some_iff.1 hb).1
  unfold sortWorldK putRowK
  rw [heap_grow_old _ _ (by simpa using hg)]
  simp [putRow, mapBlock, Sort.ahead, Array.getElem?_modify, hb, onCells]
theorem grownE [Inhabited Ev] {w : World} {g n : Nat} {os : Array Obj} (d : Array Ev) : w.grownBy (sortWorldK enc4 4 w g 0 n d os) (some g) := by
  unfold sortWorldK putRowK
  refine ⟨rfl, rfl, rfl, by simp, fun k hk hne => ?_⟩
  rw [heap_grow_old _ _ (by simpa using hk)]
  have : g ≠ k := fun e => hne (by rw [e])
  simp [putRow, mapBlock, Sort.ahead, Array.getElem?_modify, this]
theorem takeE (cur F : Array Value) (h : F.size ≤ cur.size) : (putCells id 0 F cur).toList.take F.size = F.toList := by
  apply List.ext_getElem?
  intro j
  by_cases hj : j < F.size
  · rw [List.getElem?_take_of_lt hj, Array.getElem?_toList, Array.getElem?_toList]
    simp [putCells, hj, show j < cur.size by omega]
  · rw [List.getElem?_take_eq_none (by omega), List.getElem?_eq_none (by simp; omega)]

/-- a comparison that a sort may call: it answers cf and only lays new blocks -/
def CmpOk (f : Nat) (cf : Ev → Ev → Int) : Prop :=
  ∀ (x y : Ev) (W : World), Calls Try.prog f #[.agg #[.int .i64 x.a, .int .i64 x.b, .int .i64 x.c, .string x.d], .agg #[.int .i64 y.a, .int .i64 y.b, .int .i64 y.c, .string y.d]] W fun e w' => e = .returned (.int .i64 (cf x y)) ∧ ∃ q os', w' = grow (W.drewN q) os'

theorem sort_any (f : Nat) (cf : Ev → Ev → Int) (hO : SWO (ltOf cf)) (hcmp : CmpOk f cf) (eg : ∀ args w, (callFunc f args).run Try.prog w = .ok (.enter f args) w) (base : Nat) (v : Value) (L : List Ev) (w : World) (h : OwnV w base v L) (hl : L.length ≤ 1000000) :
    Calls Try.prog 41 #[v, .func (.func f) #[] #[]] w fun e w' => e = .returned (.tuple #[]) ∧ ∃ L' : List Ev, L'.Perm L ∧ (∀ i j, i < j → j < L'.length → ltOf cf (L'.getD j evZ) (L'.getD i evZ) = false) ∧ OwnV w' base v L' ∧ w.grownBy w' v.ownBlock := by
  haveI : Inhabited Ev := ⟨evZ⟩
  rcases h.2 with ⟨rfl, h0⟩ | ⟨g, cap, cur, rfl, hb, hh, hnc, hcm, hcs, hct⟩
  · have hL : L = [] := List.length_eq_zero_iff.1 h0
    subst hL
    refine (AnyF.slices_SortFunc_none Try.sortE none 0 (.func (.func f) #[] #[]) w).mono ?_
    rintro e w' ⟨rfl, hw⟩
    rw [hw]
    exact ⟨rfl, [], List.Perm.refl _, fun i j _ h => absurd h (Nat.not_lt_zero _), h, World.grownBy.refl _ _⟩
  · have hH : HoldsK enc4 4 w g 0 L.toArray := holdsE hh hct
    have hcon := AnyQ.slices_SortFunc Try.sortE 4 Try.isAgg36 Try.sizeOf36 enc4 (fun _ => rfl) (fun x u hu => by simp [enc4] at hu; rcases hu with rfl | rfl | rfl | rfl <;> rfl) cf hO f #[] g 0 cap L.toArray w eg (fun _ _ _ _ x y => hcmp x y _) hH (lt_of_block hh) (by simp; omega)
    change Calls Try.prog 41 _ _ _ at hcon
    rw [show L.toArray.size = L.length by simp] at hcon
    refine hcon.mono ?_
    rintro e w' ⟨rfl, d', n, os, hp, hs, hw⟩
    have hsz : d'.size = L.length := by have := hp.1; simpa using this
    refine ⟨rfl, d'.toList, ?_, ?_, ?_, ?_⟩
    · have h3 := hp.2.2
      have e1 : d'.extract 0 L.length = d' := by rw [← hsz]; simp
      have e2 : L.toArray.extract 0 L.length = L.toArray := by simp
      rw [e1, e2] at h3
      simpa using h3
    · intro i j hij hj
      have hj' : j < d'.size := by simpa using hj
      have h4 := hs i j (Nat.zero_le _) hij (by rw [← hsz]; exact hj')
      have ei : d'[i]! = d'.toList.getD i evZ := by
        rw [getElem!_pos d' i (by omega)]
        simp [List.getD_eq_getElem?_getD, show i < d'.size by omega]
      have ej : d'[j]! = d'.toList.getD j evZ := by
        rw [getElem!_pos d' j hj']
        simp [List.getD_eq_getElem?_getD, hj']
      rw [ei, ej] at h4
      exact h4
    · rw [hw]
      have hfl : (flatK enc4 4 d').size = L.length * 4 := by rw [size_flatK, hsz]
      have hfc : (flatK enc4 4 d').toList = cellsL d'.toList := by
        have := flat_list d'.toList
        simpa using this
      have hdl : d'.toList.length = L.length := by rw [← hsz]; simp
      refine ⟨by rw [cellsL_len], .inr ⟨g, cap, _, by rw [hdl], hb, heapE d' hh, by rw [hdl]; exact hnc, hcm, by simp [putCells, hcs], ?_⟩⟩
      rw [hdl, ← hfl, ← hfc]
      exact takeE cur _ (by rw [hfl, hcs]; exact Nat.mul_le_mul_right _ hnc)
    · rw [hw]
      exact grownE d'
end Go.Proofs.Ytjfciokpnhnhbaa

namespace Go.Proofs.Ytjfciokpnhnhbaa
open Go.RowKit
set_option linter.unusedVariables false

/-- the element at place i is not as the one ahead of it -/
def keepAt (L : List Ev) (i : Nat) : Bool := i == 0 || !(Ev.same (L.getD i evZ) (L.getD (i - 1) evZ))
/-- of the first n elements those that are not as the one ahead of them -/
def cptTo (L : List Ev) (n : Nat) : List Ev := ((List.range n).filter (keepAt L)).map fun i => L.getD i evZ
def cptL (L : List Ev) : List Ev := cptTo L L.length
theorem cptTo_yes {L : List Ev} {n : Nat} (h : keepAt L n = true) : cptTo L (n + 1) = cptTo L n ++ [L.getD n evZ] := by
  unfold cptTo
  rw [List.range_succ, List.filter_append, List.map_append]
  simp [h]
theorem cptTo_no {L : List Ev} {n : Nat} (h : keepAt L n = false) : cptTo L (n + 1) = cptTo L n := by
  unfold cptTo
  rw [List.range_succ, List.filter_append, List.map_append]
  simp [h]
theorem cptTo_all {L : List Ev} : ∀ n, n ≤ L.length → (∀ j, j < n → keepAt L j = true) → cptTo L n = L.take n
  | 0, _, _ => rfl
  | n + 1, hn, h => by
    rw [cptTo_yes (h n (by omega)), cptTo_all n (by omega) (fun j hj => h j (by omega)), take_succ (by omega)]
theorem cptTo_len (L : List Ev) (n : Nat) : (cptTo L n).length ≤ n := by
  unfold cptTo
  rw [List.length_map]
  exact Nat.le_trans (List.length_filter_le _ _) (by simp)

/-- what the inner loop keeps: of the first p elements those that stay lie at the beginning, behind place k all is as it was -/
structure CInv (L M : List Ev) (p k : Nat) : Prop where
  len : M.length = L.length
  head : M.take k = cptTo L p
  kp : k + 1 ≤ p
  tail : ∀ i, k ≤ i → M.getD i evZ = L.getD i evZ
theorem CInv.start {L : List Ev} {k : Nat} (hk : k < L.length) (h : ∀ j, j < k → keepAt L j = true) (hn : keepAt L k = false) : CInv L L (k + 1) k :=
  ⟨rfl, by rw [cptTo_no hn, cptTo_all k (by omega) h], by omega, fun i _ => rfl⟩
theorem CInv.skip {L M : List Ev} {p k : Nat} (h : CInv L M p k) (hn : keepAt L p = false) : CInv L M (p + 1) k := ⟨h.len, by rw [cptTo_no hn, h.head], by have := h.kp; omega, h.tail⟩
theorem CInv.keep {L M : List Ev} {p k : Nat} (h : CInv L M p k) (hp : p < L.length) (hy : keepAt L p = true) : CInv L (M.set k (L.getD p evZ)) (p + 1) (k + 1) := by
  have hkp := h.kp
  have hkl : k < M.length := by rw [h.len]; omega
  refine ⟨by rw [List.length_set, h.len], ?_, by omega, fun i hi => ?_⟩
  · rw [cptTo_yes hy, ← h.head, List.take_add_one, List.take_set_of_le (Nat.le_refl _)]
    simp [hkl]
  · rw [← h.tail i (by omega)]
    simp [List.getD_eq_getElem?_getD, List.getElem?_set_ne (show k ≠ i by omega)]

theorem clear_run (w : World) (base g n k cap : Nat) (ty : TypeId) (xs : List Value) (h : w.ownsRow base 36 4 (.slice (some ⟨g, 0, none⟩) n cap) n xs) (hk : k < n) (c : Nat) :
    (Builtin.clear_ #[24] ty #[.slice (some ⟨g, k * 4, none⟩) (n - k) c]).run Try.prog w = .ok (.tuple #[]) (w.setCells g (k * 4) (Builtin.zeroCells (Value.agg #[.int .i64 0, .int .i64 0, .int .i64 0, .string ⟨#[]⟩]).cells (n - k)).toList) := by
  have hl : (Builtin.zeroCells (Value.agg #[.int .i64 0, .int .i64 0, .int .i64 0, .string ⟨#[]⟩]).cells (n - k)).toList.length = (n - k) * 4 := by
    rw [Array.length_toList, zeroCells_size]; rfl
  have hst := run_storeCells_cells (P := Try.prog) g (k * 4) (Builtin.zeroCells (Value.agg #[.int .i64 0, .int .i64 0, .int .i64 0, .string ⟨#[]⟩]).cells (n - k)).toList 0 w
    (by intro j hj; rw [hl] at hj; rw [Nat.add_zero]; obtain ⟨v, hv⟩ := own_some h (k * 4 + j) (by omega); rw [hv]; rfl)
    (by intro j hj; rw [Nat.add_zero]; exact h.frozenAt _) (zeroCells_one _)
  simp only [Nat.add_zero] at hst
  obtain ⟨m, hm⟩ : ∃ m, n - k = m + 1 := ⟨n - k - 1, by omega⟩
  rw [hm] at hst ⊢
  simp [Builtin.clear_, run_underlying Try.underlying24, Try.zeroValue36, hst]

set_option maxRecDepth 10000 in
set_option maxHeartbeats 8000000 in
theorem compact_any (base : Nat) (v : Value) (L : List Ev) (w : World) (h : OwnV w base v L) (hl : L.length ≤ 1000000) :
    Calls Try.prog 44 #[v] w fun e w' => ∃ v', e = .returned v' ∧ OwnV w' base v' (cptL L) ∧ w.grownBy w' v.ownBlock := by
  rcases h.cases with ⟨rfl, rfl⟩ | ⟨g, cap, rfl, hO⟩
  · go_enter Try.func44, Try.ntmps44
    go_wp2
    go_ret
    exact ⟨_, rfl, h, World.grownBy.refl _ _⟩
  obtain ⟨n, hn⟩ : ∃ n, n = L.length := ⟨_, rfl⟩
  have HN : Hid (n = L.length) := hn
  have HO : Hid (w.ownsRow base 36 4 (.slice (some ⟨g, 0, none⟩) n cap) n (cellsL L)) := by
    have h := hO
    unfold OwnE at h
    rw [← hn] at h
    exact h
  have hcap : n ≤ cap ∧ cap ≤ 9223372036854775807 := by rw [hn]; exact hO.caps
  obtain ⟨hc1, hc2⟩ := hcap
  rw [← hn] at hl ⊢
  by_cases hn2 : n < 2
  · have hk : Hid (cptL L = L) := by
      show _ = _
      unfold cptL
      rw [cptTo_all L.length (Nat.le_refl _) (fun j hj => by
        obtain rfl : j = 0 := by omega
        rfl), List.take_of_length_le (Nat.le_refl _)]
    clear hn h hO
    have hn2I : (n : Int) < 2 := by omega
    go_enter Try.func44, Try.ntmps44
    go_wp2
    go_ret
    refine ⟨_, rfl, ?_, World.grownBy.refl _ _⟩
    rw [hk.out]
    unfold OwnV
    rw [← HN.out]
    exact HO.out
  have hn2d : decide ((n : Int) < 2) = false := decide_eq_false (by omega)
  clear h hO hn
  go_enter Try.func44, Try.ntmps44
  go_wp2
  go_loopw [3] (fun i wr => ∃ (k : Nat), 1 ≤ k ∧ k ≤ n ∧ i = .int .i64 k ∧ Hid (∀ j, j < k → keepAt L j = true) ∧ wr.ownsRow base 36 4 (.slice (some ⟨g, 0, none⟩) n cap) n (cellsL L) ∧ Hid (w.grownBy wr (some g))) (fun i _ => n - (intOf i).toNat)
  case atStart => exact ⟨1, Nat.le_refl _, by omega, rfl, (fun j hj => by obtain rfl : j = 0 := (by omega); rfl), HO.out, World.grownBy.refl _ _⟩
  case round =>
    obtain ⟨k, hk1, hk, rfl, HR, how, HG⟩ := hrel
    by_cases hlt : k < n
    · obtain ⟨j, rfl⟩ : ∃ j, k = j + 1 := ⟨k - 1, by omega⟩
      have hltI : ((j + 1 : Nat) : Int) < (n : Int) := by omega
      have hli := (evs_lies how HN.out)
      obtain ⟨y, hy⟩ : ∃ y, y = L.getD (j + 1) evZ := ⟨_, rfl⟩
      obtain ⟨x, hx⟩ : ∃ x, x = L.getD j evZ := ⟨_, rfl⟩
      have m1 : EvAt wr g ((j + 1) * 4) y := by rw [hy]; exact hli (j + 1) (by omega)
      have m2 : EvAt wr g (j * 4) x := by rw [hx]; exact hli j (by omega)
      have HY : Hid (y = L.getD (j + 1) evZ) := hy
      have HX : Hid (x = L.getD j evZ) := hx
      have HOW : Hid (wr.ownsRow base 36 4 (.slice (some ⟨g, 0, none⟩) n cap) n (cellsL L)) := how
      have hne := Later.any wr
      have q0 : ∀ s : Later wr, s.val.cell? ⟨g, (j + 1) * 4, none⟩ = some (.int .i64 y.a) := fun s => s.cell m1.c0
      have q1 : ∀ s : Later wr, s.val.cell? ⟨g, (j + 1) * 4 + 1, none⟩ = some (.int .i64 y.b) := fun s => s.cell m1.c1
      have q2 : ∀ s : Later wr, s.val.cell? ⟨g, (j + 1) * 4 + 2, none⟩ = some (.int .i64 y.c) := fun s => s.cell m1.c2
      have q3 : ∀ s : Later wr, s.val.cell? ⟨g, (j + 1) * 4 + 3, none⟩ = some (.string y.d) := fun s => s.cell m1.c3
      have p0 : ∀ s : Later wr, s.val.cell? ⟨g, j * 4, none⟩ = some (.int .i64 x.a) := fun s => s.cell m2.c0
      have p1 : ∀ s : Later wr, s.val.cell? ⟨g, j * 4 + 1, none⟩ = some (.int .i64 x.b) := fun s => s.cell m2.c1
      have p2 : ∀ s : Later wr, s.val.cell? ⟨g, j * 4 + 2, none⟩ = some (.int .i64 x.c) := fun s => s.cell m2.c2
      have p3 : ∀ s : Later wr, s.val.cell? ⟨g, j * 4 + 3, none⟩ = some (.string x.d) := fun s => s.cell m2.c3
      have hgd : ∀ op a b w, (eqGuard op 36 a b (.agg #[.int .i64 y.a, .int .i64 y.b, .int .i64 y.c, .string y.d]) (.agg #[.int .i64 x.a, .int .i64 x.b, .int .i64 x.c, .string x.d])).run Try.prog w = .ok () w := fun op a b w => guardE op a b y x w
      clear hli m1 m2 hy hx how
      have hka : keepAt L (j + 1) = !(Ev.same y x) := by unfold keepAt; rw [HY.out, HX.out]; simp
      cases hs : Ev.same y x with
      | false =>
        have hql : ∀ w, (binOp .eql 36 (.agg #[.int .i64 y.a, .int .i64 y.b, .int .i64 y.c, .string y.d]) (.agg #[.int .i64 x.a, .int .i64 x.b, .int .i64 x.c, .string x.d])).run Try.prog w = .ok (.bool false) w := fun w => by rw [eqlE, hs]
        have HR' : Hid (∀ i, i < j + 1 + 1 → keepAt L i = true) := by
          intro i hi
          rcases Nat.lt_succ_iff_lt_or_eq.1 hi with h1 | rfl
          · exact HR.out i h1
          · rw [hka, hs]; rfl
        clear hka
        go_wp2
        refine wp_region_later (by kernel_rfl) (by kernel_rfl) ?_
        repeat (go_big_quiet_step (fail))
        refine wpQuiet_nil ?_
        rintro w' ⟨s, hs'⟩
        have hB2 : Below wr.heap.size wr w' := by rw [hs']; exact s.ok
        clear hs' s
        have HO2 : Hid (w'.ownsRow base 36 4 (.slice (some ⟨g, 0, none⟩) n cap) n (cellsL L)) := ownsRow_below HOW.out hB2
        have HG2 : Hid (w.grownBy w' (some g)) := grownBy_trans HG.out (grownBy_below _ hB2)
        clear hB2 q0 q1 q2 q3 p0 p1 p2 p3 hgd hql
        go_wp2
        go_roundw
        case rel => exact ⟨j + 1 + 1, by omega, by omega, by go_num, HR', HO2.out, HG2⟩
        case measure => simp [intOf]; omega
      | true =>
        have hql : ∀ w, (binOp .eql 36 (.agg #[.int .i64 y.a, .int .i64 y.b, .int .i64 y.c, .string y.d]) (.agg #[.int .i64 x.a, .int .i64 x.b, .int .i64 x.c, .string x.d])).run Try.prog w = .ok (.bool true) w := fun w => by rw [eqlE, hs]
        have HI0 : Hid (CInv L L (j + 1 + 1) (j + 1)) := CInv.start (by rw [← HN.out]; exact hlt) HR.out (by rw [hka, hs]; rfl)
        clear hka
        go_wp2
        refine wp_region_later (by kernel_rfl) (by kernel_rfl) ?_
        repeat (go_big_quiet_step (fail))
        refine wpQuiet_nil ?_
        rintro wA ⟨s, hs'⟩
        have hB2 : Below wr.heap.size wr wA := by rw [hs']; exact s.ok
        clear hs' s
        have HO2 : Hid (wA.ownsRow base 36 4 (.slice (some ⟨g, 0, none⟩) n cap) n (cellsL L)) := ownsRow_below HOW.out hB2
        have HG2 : Hid (w.grownBy wA (some g)) := grownBy_trans HG.out (grownBy_below _ hB2)
        clear hB2 q0 q1 q2 q3 p0 p1 p2 p3 hgd hql
        obtain ⟨k0, hk0⟩ : ∃ k0, k0 = j + 1 := ⟨_, rfl⟩
        rw [← hk0] at hlt hltI hk1 hk HI0 ⊢
        clear hk0
        go_wp2
        go_loopw [3, 5] (fun a i wz => ∃ (k i2 : Nat) (M : List Ev), k0 + (i2 + 1) ≤ n ∧ k < n ∧ a = .int .i64 k ∧ i = .int .i64 (i2 + 1 : Nat) ∧ Hid (CInv L M (k0 + (i2 + 1)) k) ∧ wz.ownsRow base 36 4 (.slice (some ⟨g, 0, none⟩) n cap) n (cellsL M) ∧ Hid (w.grownBy wz (some g))) (fun _ i _ => n - (intOf i).toNat)
        case atStart => exact ⟨k0, 0, L, by omega, by omega, rfl, rfl, HI0, HO2.out, HG2⟩
        case round =>
          obtain ⟨k, i2, M, hle, hkn, rfl, rfl, HI, how, HGz⟩ := hrel
          have hML : M.length = n := by rw [HI.out.len, ← HN.out]
          by_cases hp : k0 + (i2 + 1) < n
          · have hpI : ((i2 + 1 : Nat) : Int) < ((n - k0 : Nat) : Int) := by omega
            have hpN : i2 + 1 < n - k0 := by omega
            have hli := evs_lies how hML.symm
            obtain ⟨y, hy⟩ : ∃ y, y = L.getD (k0 + (i2 + 1)) evZ := ⟨_, rfl⟩
            obtain ⟨x, hx⟩ : ∃ x, x = L.getD (k0 + i2) evZ := ⟨_, rfl⟩
            have hkp := HI.out.kp
            have m1 : EvAt wr g (k0 * 4 + (i2 + 1) * 4) y := by
              have := hli (k0 + (i2 + 1)) (by omega)
              rw [HI.out.tail _ (by omega), ← hy, Nat.add_mul] at this
              exact this
            have m2 : EvAt wr g (k0 * 4 + i2 * 4) x := by
              have := hli (k0 + i2) (by omega)
              rw [HI.out.tail _ (by omega), ← hx, Nat.add_mul] at this
              exact this
            have hne := Later.any wr
            have q0 : ∀ s : Later wr, s.val.cell? ⟨g, k0 * 4 + (i2 + 1) * 4, none⟩ = some (.int .i64 y.a) := fun s => s.cell m1.c0
            have q1 : ∀ s : Later wr, s.val.cell? ⟨g, k0 * 4 + (i2 + 1) * 4 + 1, none⟩ = some (.int .i64 y.b) := fun s => s.cell m1.c1
            have q2 : ∀ s : Later wr, s.val.cell? ⟨g, k0 * 4 + (i2 + 1) * 4 + 2, none⟩ = some (.int .i64 y.c) := fun s => s.cell m1.c2
            have q3 : ∀ s : Later wr, s.val.cell? ⟨g, k0 * 4 + (i2 + 1) * 4 + 3, none⟩ = some (.string y.d) := fun s => s.cell m1.c3
            have p0 : ∀ s : Later wr, s.val.cell? ⟨g, k0 * 4 + i2 * 4, none⟩ = some (.int .i64 x.a) := fun s => s.cell m2.c0
            have p1 : ∀ s : Later wr, s.val.cell? ⟨g, k0 * 4 + i2 * 4 + 1, none⟩ = some (.int .i64 x.b) := fun s => s.cell m2.c1
            have p2 : ∀ s : Later wr, s.val.cell? ⟨g, k0 * 4 + i2 * 4 + 2, none⟩ = some (.int .i64 x.c) := fun s => s.cell m2.c2
            have p3 : ∀ s : Later wr, s.val.cell? ⟨g, k0 * 4 + i2 * 4 + 3, none⟩ = some (.string x.d) := fun s => s.cell m2.c3
            have hgd : ∀ op a b w, (eqGuard op 36 a b (.agg #[.int .i64 y.a, .int .i64 y.b, .int .i64 y.c, .string y.d]) (.agg #[.int .i64 x.a, .int .i64 x.b, .int .i64 x.c, .string x.d])).run Try.prog w = .ok () w := fun op a b w => guardE op a b y x w
            have hka : keepAt L (k0 + (i2 + 1)) = !(Ev.same y x) := by
              unfold keepAt
              rw [hy, hx, show k0 + (i2 + 1) - 1 = k0 + i2 by omega]
              simp
            have HY : Hid (y = L.getD (k0 + (i2 + 1)) evZ) := hy
            have HOW : Hid (wr.ownsRow base 36 4 (.slice (some ⟨g, 0, none⟩) n cap) n (cellsL M)) := how
            clear hli m2 hx how
            cases hs : Ev.same y x with
            | true =>
              have hql : ∀ w, (binOp .neq 36 (.agg #[.int .i64 y.a, .int .i64 y.b, .int .i64 y.c, .string y.d]) (.agg #[.int .i64 x.a, .int .i64 x.b, .int .i64 x.c, .string x.d])).run Try.prog w = .ok (.bool false) w := fun w => by rw [neqE, hs]; rfl
              have HI' : Hid (CInv L M (k0 + (i2 + 1 + 1)) k) := HI.out.skip (by rw [hka, hs]; rfl)
              clear hka hy m1
              go_wp2
              refine wp_region_later (by kernel_rfl) (by kernel_rfl) ?_
              repeat (go_big_quiet_step (fail))
              refine wpQuiet_nil ?_
              rintro w' ⟨s, hs'⟩
              have hB2 : Below wr.heap.size wr w' := by rw [hs']; exact s.ok
              clear hs' s
              have HO3 : Hid (w'.ownsRow base 36 4 (.slice (some ⟨g, 0, none⟩) n cap) n (cellsL M)) := ownsRow_below HOW.out hB2
              have HG3 : Hid (w.grownBy w' (some g)) := grownBy_trans HGz.out (grownBy_below _ hB2)
              clear hB2 q0 q1 q2 q3 p0 p1 p2 p3 hgd hql
              go_wp2
              go_roundw
              case rel => exact ⟨k, i2 + 1, M, by omega, hkn, rfl, by go_num, HI', HO3.out, HG3⟩
              case measure => simp [intOf]; omega
            | false =>
              have hql : ∀ w, (binOp .neq 36 (.agg #[.int .i64 y.a, .int .i64 y.b, .int .i64 y.c, .string y.d]) (.agg #[.int .i64 x.a, .int .i64 x.b, .int .i64 x.c, .string x.d])).run Try.prog w = .ok (.bool true) w := fun w => by rw [neqE, hs]; rfl
              have HI' : Hid (CInv L (M.set k y) (k0 + (i2 + 1 + 1)) (k + 1)) := by
                have := HI.out.keep (by rw [← HN.out]; exact hp) (by rw [hka, hs]; rfl)
                rw [← HY.out] at this
                exact this
              clear hka hy
              go_wp2
              refine wp_region_later (by kernel_rfl) (by kernel_rfl) ?_
              repeat (go_big_quiet_step (fail))
              refine wpQuiet_nil ?_
              rintro wB ⟨s, hs'⟩
              have hB2 : Below wr.heap.size wr wB := by rw [hs']; exact s.ok
              clear hs' s
              have HO3 : Hid (wB.ownsRow base 36 4 (.slice (some ⟨g, 0, none⟩) n cap) n (cellsL M)) := ownsRow_below HOW.out hB2
              have HG3 : Hid (w.grownBy wB (some g)) := grownBy_trans HGz.out (grownBy_below _ hB2)
              obtain ⟨z0, z1, z2, z3⟩ := m1.below hB2
              clear hB2 q0 q1 q2 q3 p0 p1 p2 p3 hgd hql
              have f0 := HO3.out.frozenAt (k * 4)
              obtain ⟨v0, y0⟩ := own_some HO3.out (k * 4) (by omega)
              have f1 := HO3.out.frozenAt (k * 4 + 1)
              obtain ⟨v1, y1⟩ := own_some HO3.out (k * 4 + 1) (by omega)
              have f2 := HO3.out.frozenAt (k * 4 + 2)
              obtain ⟨v2, y2⟩ := own_some HO3.out (k * 4 + 2) (by omega)
              have f3 := HO3.out.frozenAt (k * 4 + 3)
              obtain ⟨v3, y3⟩ := own_some HO3.out (k * 4 + 3) (by omega)
              have hknI : (k : Int) < (n : Int) := by omega
              go_wp2
              go_roundw
              case rel =>
                refine ⟨k + 1, i2 + 1, M.set k y, by omega, by have := HI'.out.kp; omega, by go_num, by go_num, HI', ?_, ?_⟩
                · rw [← cellsL_set M k y (by omega)]
                  exact (((((((World.ownsRow.stored HO3.out _ _).1).stored _ _).1).stored _ _).1).stored _ _).1
                · have s1 := World.ownsRow.stored HO3.out (k * 4) (.int .i64 y.a)
                  have s2 := s1.1.stored (k * 4 + 1) (.int .i64 y.b)
                  have s3 := s2.1.stored (k * 4 + 2) (.int .i64 y.c)
                  have s4 := s3.1.stored (k * 4 + 3) (.string y.d)
                  exact grownBy_trans HG3.out (grownBy_trans s1.2 (grownBy_trans s2.2 (grownBy_trans s3.2 s4.2)))
              case measure => simp [intOf]; omega
          · have hpe : k0 + (i2 + 1) = n := by omega
            have hpd : decide (((i2 + 1 : Nat) : Int) < ((n - k0 : Nat) : Int)) = false := decide_eq_false (by omega)
            have HOW : Hid (wr.ownsRow base 36 4 (.slice (some ⟨g, 0, none⟩) n cap) n (cellsL M)) := how
            have hcl := fun ty => clear_run wr base g n k cap ty (cellsL M) how hkn (cap - k)
            have HH : Hid (M.take k = cptL L) := by
              have h := HI.out.head
              rw [hpe, HN.out] at h
              exact h
            have hkN : k ≤ n := by omega
            have hkC : k ≤ cap := by omega
            obtain ⟨zs, hzs⟩ : ∃ zs, zs = (Builtin.zeroCells (Value.agg #[.int .i64 0, .int .i64 0, .int .i64 0, .string ⟨#[]⟩]).cells (n - k)).toList := ⟨_, rfl⟩
            rw [← hzs] at hcl
            clear how hzs
            go_wp2
            go_ret
            obtain ⟨xs', h1, h2, h3⟩ := own_setCells base g n cap zs (k * 4) wr _ HOW.out
            have hkl : (cptL L).length = k := by rw [← HH.out, List.length_take]; omega
            refine ⟨_, rfl, ?_, grownBy_trans HGz.out h3⟩
            unfold OwnV
            rw [hkl]
            have h4 := own_shrink h1 hkN
            rw [h2] at h4
            have h5 : (cellsL M).take (k * 4) = cellsL (cptL L) := by
              rw [← HH.out]
              have h6 := congrArg cellsL (List.take_append_drop k M)
              rw [cellsL_append] at h6
              rw [← h6]
              have hl6 : (cellsL (M.take k)).length = k * 4 := by rw [cellsL_len, List.length_take]; omega
              rw [← hl6, List.take_left']
              rfl
            rw [h5] at h4
            exact h4
    · have hke : k = n := by omega
      subst hke
      have hkd : decide ((k : Int) < (k : Int)) = false := by simp
      have hk : Hid (cptL L = L) := by
        show _ = _
        unfold cptL
        rw [← HN.out, cptTo_all k (by rw [HN.out]; exact Nat.le_refl _) HR.out, List.take_of_length_le (by rw [HN.out]; exact Nat.le_refl _)]
      have HOW : Hid (wr.ownsRow base 36 4 (.slice (some ⟨g, 0, none⟩) k cap) k (cellsL L)) := how
      clear how
      go_wp2
      go_ret
      refine ⟨_, rfl, ?_, HG.out⟩
      rw [hk.out]
      unfold OwnV
      rw [← HN.out]
      exact HOW.out
end Go.Proofs.Ytjfciokpnhnhbaa

namespace Go.Proofs.Ytjfciokpnhnhbaa
open Go.RowKit
set_option linter.unusedVariables false

/-- a list of ops is a right sequence -/
def seqL (L : List Ev) : Bool := seqB (fun i => L.getD i evZ) L.length
theorem seqL_len {L : List Ev} (h : seqL L = true) : L.length ≤ 40 := by
  unfold seqL seqB at h
  simp at h
  exact h.1
theorem putS_len (s : Ev) : ∀ L : List Ev, (putS L s).length ≤ L.length + 1
  | [] => by simp [putS]
  | x :: l => by
    unfold putS
    split
    · have := putS_len s l; simp; omega
    · split <;> simp
/-- the events of both, each once -/
def mergeS (A B : List Ev) : List Ev := B.foldl putS A
theorem mergeS_len (A : List Ev) : ∀ B : List Ev, (mergeS A B).length ≤ A.length + B.length := by
  intro B
  induction B generalizing A with
  | nil => simp [mergeS]
  | cons x l ih =>
    have h := ih (putS A x)
    have h2 := putS_len x A
    show (mergeS (putS A x) l).length ≤ _
    simp
    omega
theorem mergeS_step (A B : List Ev) (k : Nat) (h : k < B.length) : putS (mergeS A (B.take k)) (B.getD k evZ) = mergeS A (B.take (k + 1)) := by
  unfold mergeS
  rw [List.take_add_one, List.foldl_append]
  have : B[k]?.toList = [B.getD k evZ] := by simp [h]
  rw [this]
  rfl
/-- the op y is not unlike the op of its Id in A -/
def okB (A : List Ev) (y : Ev) : Bool := match firstA (fun i => A.getD i evZ) y.a A.length with
  | none => true
  | some j => Ev.same (A.getD j evZ) y
theorem okB_none {A : List Ev} {y : Ev} (h : firstA (fun i => A.getD i evZ) y.a A.length = none) : okB A y = true := by unfold okB; rw [h]
theorem okB_some {A : List Ev} {y : Ev} {j : Nat} (h : firstA (fun i => A.getD i evZ) y.a A.length = some j) : okB A y = Ev.same (A.getD j evZ) y := by unfold okB; rw [h]
/-- two sequences can be merged -/
def mergedB (A B : List Ev) : Bool := seqL A && (seqL B && (allB (fun i => okB A (B.getD i evZ)) B.length && seqL (mergeS A B)))
/-- what a merging gives: the events of M in memory of its own, or nothing -/
def Gave (w : World) (base : Nat) (ok : Bool) (M : List Ev) (v : Value) : Prop :=
  (ok = false ∧ v = .slice none 0 0) ∨ (ok = true ∧ ∃ g gc, v = .slice (some ⟨g, 0, none⟩) M.length gc ∧ OwnE w base g gc M)

/-- every op of the list can have come in -/
def InL (L : List Ev) : Prop := ∀ i, i < L.length → (L.getD i evZ).in
theorem InL.mem {L : List Ev} (h : InL L) {x : Ev} (hx : x ∈ L) : x.in := by
  obtain ⟨i, hi, rfl⟩ := List.getElem_of_mem hx
  have := h i hi
  simpa [List.getD_eq_getElem?_getD, hi] using this
theorem InL.of {L : List Ev} (h : ∀ x ∈ L, x.in) : InL L := by
  intro i hi
  refine h _ ?_
  simp [List.getD_eq_getElem?_getD, hi]
theorem putS_mem (s x : Ev) : ∀ L : List Ev, x ∈ putS L s → x ∈ L ∨ x = s
  | [], h => by simp [putS] at h; exact .inr h
  | y :: l, h => by
    unfold putS at h
    split at h
    · rcases List.mem_cons.1 h with h | h
      · exact .inl (by rw [h]; exact List.mem_cons_self)
      · rcases putS_mem s x l h with h | h
        · exact .inl (List.mem_cons_of_mem _ h)
        · exact .inr h
    · split at h
      · exact .inl h
      · rcases List.mem_cons.1 h with h | h
        · exact .inr h
        · exact .inl h
theorem mergeS_sub (A : List Ev) (x : Ev) : ∀ B : List Ev, x ∈ mergeS A B → x ∈ A ∨ x ∈ B := by
  intro B
  induction B generalizing A with
  | nil => intro h; exact .inl h
  | cons y l ih =>
    intro h
    rcases ih (putS A y) h with h | h
    · rcases putS_mem y x A h with h | h
      · exact .inl h
      · exact .inr (by rw [h]; exact List.mem_cons_self)
    · exact .inr (List.mem_cons_of_mem _ h)
theorem mergeS_in {A B : List Ev} (hA : InL A) (hB : InL B) : InL (mergeS A B) := InL.of fun x hx => by
  rcases mergeS_sub A x B hx with h | h
  · exact hA.mem h
  · exact hB.mem h
theorem specSeqL (b off cap : Nat) (L : List Ev) (w : World) (h : Lies w b off L) (hb : b < w.heap.size) (hl : L.length ≤ cap) (hc : cap ≤ 9223372036854775807) (hI : InL L) (x : Bool) (hx : seqL L = x) :
    Calls Try.prog 30 #[.slice (some ⟨b, off, none⟩) L.length cap] w fun e w' => e = .returned (.bool x) ∧ Below w.heap.size w w' := by
  rw [← hx]; exact specSeq_any _ _ _ _ w (h.evs hb hl hc) (fun i hi => (hI i hi).1)
theorem implSeqL (b off cap : Nat) (L : List Ev) (w : World) (h : Lies w b off L) (hb : b < w.heap.size) (hl : L.length ≤ cap) (hc : cap ≤ 9223372036854775807) (hI : InL L) (x : Bool) (hx : seqL L = x) :
    Calls Try.prog 24 #[.slice (some ⟨b, off, none⟩) L.length cap] w fun e w' => e = .returned (.bool x) ∧ Below w.heap.size w w' := by
  rw [← hx]; exact implSeq_any _ _ _ _ w (h.evs hb hl hc) hI

set_option maxRecDepth 10000 in
set_option maxHeartbeats 4000000 in
theorem specMerged_any (b1 o1 c1 b2 o2 c2 : Nat) (A B : List Ev) (w : World) (h1 : Lies w b1 o1 A) (hb1 : b1 < w.heap.size) (hl1 : A.length ≤ c1) (hc1 : c1 ≤ 9223372036854775807) (h2 : Lies w b2 o2 B) (hb2 : b2 < w.heap.size) (hl2 : B.length ≤ c2) (hc2 : c2 ≤ 9223372036854775807) (hIA : InL A) (hIB : InL B) :
    Calls Try.prog 15 #[.slice (some ⟨b1, o1, none⟩) A.length c1, .slice (some ⟨b2, o2, none⟩) B.length c2] w fun e w' => ∃ v, e = .returned (.tuple #[v, .bool (mergedB A B)]) ∧ Gave w' w.heap.size (mergedB A B) (mergeS A B) v ∧ Below w.heap.size w w' := by
  obtain ⟨i0, hi, hz0, hz1, hz2⟩ := info_parts infoE
  have HL1 : Hid (Lies w b1 o1 A) := h1
  have HL2 : Hid (Lies w b2 o2 B) := h2
  have HC1 : Hid (∀ w', Below w.heap.size w w' → ∀ x, seqL A = x → Calls Try.prog 30 #[.slice (some ⟨b1, o1, none⟩) A.length c1] w' fun e w'' => e = .returned (.bool x) ∧ Below w'.heap.size w' w'') := fun w' hB x hx => specSeqL _ _ _ A w' (h1.grow hb1 hB) (by have := hB.size; omega) hl1 hc1 hIA x hx
  have HC2 : Hid (∀ w', Below w.heap.size w w' → ∀ x, seqL B = x → Calls Try.prog 30 #[.slice (some ⟨b2, o2, none⟩) B.length c2] w' fun e w'' => e = .returned (.bool x) ∧ Below w'.heap.size w' w'') := fun w' hB x hx => specSeqL _ _ _ B w' (h2.grow hb2 hB) (by have := hB.size; omega) hl2 hc2 hIB x hx
  have HAT : Hid (∀ w', Below w.heap.size w w' → ∀ z, Calls Try.prog 45 #[.slice (some ⟨b1, o1, none⟩) A.length c1, .int .i64 z] w' fun e w'' => e = .returned (.int .i64 (atZ (firstA (fun i => A.getD i evZ) z A.length))) ∧ w'' = w') := fun w' hB z => at_any _ _ _ _ z w' ((h1.grow hb1 hB).evs (by have := hB.size; omega) hl1 hc1)
  have HIM : Hid (InL (mergeS A B)) := mergeS_in hIA hIB
  clear h1 h2
  obtain ⟨n, hn⟩ : ∃ n, n = A.length := ⟨_, rfl⟩
  obtain ⟨m, hm⟩ : ∃ m, m = B.length := ⟨_, rfl⟩
  have HN : Hid (n = A.length) := hn
  have HM : Hid (m = B.length) := hm
  have HATn : Hid (∀ w', Below w.heap.size w w' → ∀ z, Calls Try.prog 45 #[.slice (some ⟨b1, o1, none⟩) n c1, .int .i64 z] w' fun e w'' => e = .returned (.int .i64 (atZ (firstA (fun i => A.getD i evZ) z A.length))) ∧ w'' = w') := by rw [hn]; exact HAT
  rw [← hn] at hl1 HC1 ⊢
  rw [← hm] at hl2 HC2 ⊢
  clear hn hm
  cases hA : seqL A with
  | false =>
    have hr : Hid (mergedB A B = false) := by show _ = _; unfold mergedB; rw [hA]; rfl
    go_enter Try.func15, Try.ntmps15
    go_wp2_with fail
    refine (HC1.out _ (Below.refl _ _) false hA).mono ?_
    rintro e w1 ⟨rfl, hB1⟩
    go_wp2
    go_ret2
    rw [hr.out]
    exact ⟨_, rfl, .inl ⟨rfl, rfl⟩, hB1⟩
  | true =>
    have hn40 : n ≤ 40 := by rw [HN.out]; exact seqL_len hA
    cases hB : seqL B with
    | false =>
      have hr : Hid (mergedB A B = false) := by show _ = _; unfold mergedB; rw [hA, hB]; rfl
      go_enter Try.func15, Try.ntmps15
      go_wp2_with fail
      refine (HC1.out _ (Below.refl _ _) true hA).mono ?_
      rintro e w1 ⟨rfl, hB1⟩
      go_wp2_with fail
      refine (HC2.out _ hB1 false hB).mono ?_
      rintro e w2 ⟨rfl, hB2⟩
      go_wp2
      go_ret2
      rw [hr.out]
      exact ⟨_, rfl, .inl ⟨rfl, rfl⟩, hB1.trans (hB2.mono hB1.size)⟩
    | true =>
      have hm40 : m ≤ 40 := by rw [HM.out]; exact seqL_len hB
      have hr : Hid (mergedB A B = (allB (fun i => okB A (B.getD i evZ)) B.length && seqL (mergeS A B))) := by show _ = _; unfold mergedB; rw [hA, hB]; rfl
      go_enter Try.func15, Try.ntmps15
      go_wp2_with fail
      refine (HC1.out _ (Below.refl _ _) true hA).mono ?_
      rintro e w1 ⟨rfl, hB1⟩
      go_wp2_with fail
      refine (HC2.out _ hB1 true hB).mono ?_
      rintro e w2 ⟨rfl, hB2'⟩
      have hB2 : Below w.heap.size w w2 := hB1.trans (hB2'.mono hB1.size)
      clear hB1 hB2'
      have HB2 : Hid (Below w.heap.size w w2) := hB2
      have HW : Hid (Lies (w2.alloc (.cells #[] 36)) b1 o1 A) := HL1.out.grow hb1 (hB2.alloc hB2.size _)
      have k1 : 0 + n ≤ maxLen := by unfold maxLen; omega
      have k2 : (0 + n) * 40 ≤ 140737488355328 := by omega
      clear hB2
      go_wp2_with (at_builtin; refine wpList_append_own _ rfl _ _ 24 rfl w.heap.size 36 i0 (.agg #[.int .i64 0, .int .i64 0, .int .i64 0, .string ⟨#[]⟩]) 4 40 Try.underlying24 hi hz0 hz1 hz2 rfl (by decide) _ 0 [] rfl (World.ownsRow_made w2 #[] 0 HB2.out.size (by decide) rfl) ⟨b1, o1, none⟩ n c1 (cellsL A) rfl (by rw [cellsL_len, ← HN.out]) HW.out.news (oneL _) k1 k2 (by have := HB2.out.size; simp; omega) ?_; intro v' w3 hown hgrow hnil)
      obtain ⟨g, gc, rfl, hf⟩ := own_form hown (L := A) (by rw [← HN.out, Nat.zero_add]) (List.nil_append _) (fun e => by have := (hnil.1 e).1; cases this)
      have hB3 : Below w.heap.size w w3 := (HB2.out.alloc HB2.out.size _).grown hgrow (by have := HB2.out.size; simp; omega) (fun x hx => by have hx' : some w2.heap.size = some x := hx; cases hx'; exact HB2.out.size)
      have HF0 : Hid (OwnE w3 w.heap.size g gc A) := hf
      clear hown hgrow hnil hf
      go_wp2
      go_loopw [6, 7] (fun v i wr => ∃ (k g gc : Nat), k ≤ m ∧ i = .int .i64 k ∧ v = .slice (some ⟨g, 0, none⟩) (mergeS A (B.take k)).length gc ∧ Hid (OwnE wr w.heap.size g gc (mergeS A (B.take k)) ∧ allB (fun i => okB A (B.getD i evZ)) k = true) ∧ Below w.heap.size w wr) (fun _ i _ => m - (Go.RowKit.intOf i).toNat)
      case atStart => exact ⟨0, g, gc, Nat.zero_le _, rfl, rfl, ⟨HF0.out, rfl⟩, hB3⟩
      case round =>
        obtain ⟨k, g', gc', hk, rfl, rfl, HOK, hBr⟩ := hrel
        have HO : Hid (OwnE wr w.heap.size g' gc' (mergeS A (B.take k))) := HOK.out.1
        by_cases hlt : k < m
        · have hltI : (k : Int) < (m : Int) := by omega
          obtain ⟨y, hy⟩ : ∃ y, y = B.getD k evZ := ⟨_, rfl⟩
          obtain ⟨d0, d1, d2, d3⟩ : EvAt wr b2 (o2 + k * 4) y := by rw [hy]; exact (HL2.out k (by rw [← HM.out]; exact hlt)).grow hb2 hBr
          have hml : (mergeS A (B.take k)).length ≤ 2000000 := by
            have := mergeS_len A (B.take k)
            rw [List.length_take, ← HN.out] at this
            omega
          have hst : putS (mergeS A (B.take k)) y = mergeS A (B.take (k + 1)) := by rw [hy]; exact mergeS_step A B k (by rw [← HM.out]; exact hlt)
          have HST : Hid (_) := hst
          have HBr : Hid (Below w.heap.size w wr) := hBr
          have HY : Hid (y = B.getD k evZ) := hy
          have m1 : Hid (EvAt wr b2 (o2 + k * 4) y) := ⟨d0, d1, d2, d3⟩
          clear hy hst hBr hB3 HF0
          cases hf : firstA (fun i => A.getD i evZ) y.a A.length with
          | none =>
            have HOKB : Hid (okB A y = true) := okB_none hf
            have hz : atZ (firstA (fun i => A.getD i evZ) y.a A.length) = -1 := by rw [hf]; rfl
            go_wp2_with fail
            refine (HATn.out wr HBr.out _).mono ?_
            rintro e w' ⟨he, hw⟩
            rw [hz] at he
            subst he
            rw [hw]; clear hw w' hz
            have hne := Later.any wr
            clear d0 d1 d2 d3
            go_wp2
            refine wp_region_later (by kernel_rfl) (by kernel_rfl) ?_
            repeat (go_big_quiet_step (fail))
            refine wpQuiet_nil ?_
            rintro wQ ⟨s, hs⟩
            have HBQ : Hid (Below wr.heap.size wr wQ) := by rw [hs]; exact s.ok
            obtain ⟨d0, d1, d2, d3⟩ := EvAt.below m1.out HBQ.out
            clear hs s
            go_wp2_with fail
            refine (put_any g' 0 gc' (mergeS A (B.take k)) y wQ (HO.out.lies.1.grow HO.out.lies.2.1 HBQ.out) (by have := HBQ.out.size; have := HO.out.lies.2.1; omega) HO.out.caps.1 HO.out.caps.2 hml).mono ?_
            rintro e w4 ⟨g4, gc4, rfl, hO4, hB4⟩
            rw [HST.out] at hO4 ⊢
            have HO4 : Hid (OwnE w4 w.heap.size g4 gc4 (mergeS A (B.take (k + 1)))) := hO4.base (by have := HBr.out.size; have := HBQ.out.size; omega)
            have HB4 : Hid (Below w.heap.size w w4) := (HBr.out.trans (HBQ.out.mono HBr.out.size)).trans (hB4.mono (by have := HBr.out.size; have := HBQ.out.size; omega))
            clear hO4 hB4
            go_wp2
            go_roundw
            case rel => exact ⟨k + 1, g4, gc4, by omega, by go_num, rfl, ⟨HO4.out, by rw [allB_succ, HOK.out.2, ← HY.out, HOKB.out]; rfl⟩, HB4.out⟩
            case measure => simp [Go.RowKit.intOf]; omega
          | some j =>
            obtain ⟨hj, hja⟩ := firstA_some hf
            have hjn : j < n := by rw [HN.out]; exact hj
            have hjI : (j : Int) < (n : Int) := by omega
            obtain ⟨x, hx⟩ : ∃ x, x = A.getD j evZ := ⟨_, rfl⟩
            have HOKB0 : Hid (okB A y = Ev.same x y) := by show _ = _; rw [okB_some hf, hx]
            have hz : atZ (firstA (fun i => A.getD i evZ) y.a A.length) = (j : Int) := by rw [hf]; rfl
            have m2 : EvAt wr b1 (o1 + j * 4) x := by rw [hx]; exact (HL1.out j hj).grow hb1 HBr.out
            go_wp2_with fail
            refine (HATn.out wr HBr.out _).mono ?_
            rintro e w' ⟨he, hw⟩
            rw [hz] at he
            subst he
            rw [hw]; clear hw w' hz
            have hne := Later.any wr
            have q0 : ∀ s : Later wr, s.val.cell? ⟨b1, o1 + j * 4, none⟩ = some (.int .i64 x.a) := fun s => s.cell m2.c0
            have q1 : ∀ s : Later wr, s.val.cell? ⟨b1, o1 + j * 4 + 1, none⟩ = some (.int .i64 x.b) := fun s => s.cell m2.c1
            have q2 : ∀ s : Later wr, s.val.cell? ⟨b1, o1 + j * 4 + 2, none⟩ = some (.int .i64 x.c) := fun s => s.cell m2.c2
            have q3 : ∀ s : Later wr, s.val.cell? ⟨b1, o1 + j * 4 + 3, none⟩ = some (.string x.d) := fun s => s.cell m2.c3
            have p0 : ∀ s : Later wr, s.val.cell? ⟨b2, o2 + k * 4, none⟩ = some (.int .i64 y.a) := fun s => s.cell m1.out.c0
            have p1 : ∀ s : Later wr, s.val.cell? ⟨b2, o2 + k * 4 + 1, none⟩ = some (.int .i64 y.b) := fun s => s.cell m1.out.c1
            have p2 : ∀ s : Later wr, s.val.cell? ⟨b2, o2 + k * 4 + 2, none⟩ = some (.int .i64 y.c) := fun s => s.cell m1.out.c2
            have p3 : ∀ s : Later wr, s.val.cell? ⟨b2, o2 + k * 4 + 3, none⟩ = some (.string y.d) := fun s => s.cell m1.out.c3
            have hgd : ∀ op a b w, (eqGuard op 36 a b (.agg #[.int .i64 x.a, .int .i64 x.b, .int .i64 x.c, .string x.d]) (.agg #[.int .i64 y.a, .int .i64 y.b, .int .i64 y.c, .string y.d])).run Try.prog w = .ok () w := fun op a b w => guardE op a b x y w
            clear d0 d1 d2 d3 hx hja
            cases hs : Ev.same x y with
            | true =>
              have HOKB : Hid (okB A y = true) := HOKB0.out.trans hs
              have hql : ∀ w, (binOp .neq 36 (.agg #[.int .i64 x.a, .int .i64 x.b, .int .i64 x.c, .string x.d]) (.agg #[.int .i64 y.a, .int .i64 y.b, .int .i64 y.c, .string y.d])).run Try.prog w = .ok (.bool false) w := fun w => by rw [neqE, hs]; rfl
              go_wp2
              refine wp_region_later (by kernel_rfl) (by kernel_rfl) ?_
              repeat (go_big_quiet_step (fail))
              refine wpQuiet_nil ?_
              rintro wQ ⟨s, hs2⟩
              have HBQ : Hid (Below wr.heap.size wr wQ) := by rw [hs2]; exact s.ok
              obtain ⟨d0, d1, d2, d3⟩ := EvAt.below m1.out HBQ.out
              clear hs2 s
              clear q0 q1 q2 q3 p0 p1 p2 p3 hgd hql m2
              go_wp2_with fail
              refine (put_any g' 0 gc' (mergeS A (B.take k)) y wQ (HO.out.lies.1.grow HO.out.lies.2.1 HBQ.out) (by have := HBQ.out.size; have := HO.out.lies.2.1; omega) HO.out.caps.1 HO.out.caps.2 hml).mono ?_
              rintro e w4 ⟨g4, gc4, rfl, hO4, hB4⟩
              rw [HST.out] at hO4 ⊢
              have HO4 : Hid (OwnE w4 w.heap.size g4 gc4 (mergeS A (B.take (k + 1)))) := hO4.base (by have := HBr.out.size; have := HBQ.out.size; omega)
              have HB4 : Hid (Below w.heap.size w w4) := (HBr.out.trans (HBQ.out.mono HBr.out.size)).trans (hB4.mono (by have := HBr.out.size; have := HBQ.out.size; omega))
              clear hO4 hB4
              go_wp2
              go_roundw
              case rel => exact ⟨k + 1, g4, gc4, by omega, by go_num, rfl, ⟨HO4.out, by rw [allB_succ, HOK.out.2, ← HY.out, HOKB.out]; rfl⟩, HB4.out⟩
              case measure => simp [Go.RowKit.intOf]; omega
            | false =>
              have hfa : Hid (mergedB A B = false) := by
                show _ = _
                rw [hr.out, allB_false (p := fun i => okB A (B.getD i evZ)) (k := k) (by rw [← HM.out]; exact hlt) (by show okB A (B.getD k evZ) = false; rw [← HY.out, HOKB0.out, hs])]
                rfl
              have hql : ∀ w, (binOp .neq 36 (.agg #[.int .i64 x.a, .int .i64 x.b, .int .i64 x.c, .string x.d]) (.agg #[.int .i64 y.a, .int .i64 y.b, .int .i64 y.c, .string y.d])).run Try.prog w = .ok (.bool true) w := fun w => by rw [neqE, hs]; rfl
              go_wp2
              refine wp_region_later (by kernel_rfl) (by kernel_rfl) ?_
              repeat (go_big_quiet_step (fail))
              refine wpQuiet_nil ?_
              rintro wQ ⟨s, hs2⟩
              have HBQ : Hid (Below wr.heap.size wr wQ) := by rw [hs2]; exact s.ok
              obtain ⟨d0, d1, d2, d3⟩ := EvAt.below m1.out HBQ.out
              clear hs2 s
              go_wp2
              go_ret2
              rw [hfa.out]
              exact ⟨_, rfl, .inl ⟨rfl, rfl⟩, HBr.out.trans (HBQ.out.mono HBr.out.size)⟩
        · have hke : k = m := by omega
          subst hke
          have ht : B.take k = B := List.take_of_length_le (by rw [← HM.out]; exact Nat.le_refl _)
          rw [ht] at HO ⊢
          have HBr : Hid (Below w.heap.size w wr) := hBr
          cases hM : seqL (mergeS A B) with
          | false =>
            have hkd : decide ((k : Int) < (k : Int)) = false := by simp
            clear hBr hB3 HF0
            go_wp2_with fail
            refine (specSeqL g' 0 gc' (mergeS A B) wr HO.out.lies.1 HO.out.lies.2.1 HO.out.caps.1 HO.out.caps.2 HIM.out false hM).mono ?_
            rintro e w5 ⟨rfl, hB5⟩
            go_wp2
            go_ret2
            rw [hr.out, ← HM.out, HOK.out.2, hM]
            exact ⟨_, rfl, .inl ⟨rfl, rfl⟩, HBr.out.trans (hB5.mono HBr.out.size)⟩
          | true =>
            have hkd : decide ((k : Int) < (k : Int)) = false := by simp
            clear hBr hB3 HF0
            go_wp2_with fail
            refine (specSeqL g' 0 gc' (mergeS A B) wr HO.out.lies.1 HO.out.lies.2.1 HO.out.caps.1 HO.out.caps.2 HIM.out true hM).mono ?_
            rintro e w5 ⟨rfl, hB5⟩
            go_wp2
            go_ret2
            rw [hr.out, ← HM.out, HOK.out.2, hM]
            exact ⟨_, rfl, .inr ⟨rfl, g', gc', rfl, HO.out.below hB5⟩, HBr.out.trans (hB5.mono HBr.out.size)⟩
end Go.Proofs.Ytjfciokpnhnhbaa

namespace Go.Proofs.Ytjfciokpnhnhbaa
open Go.RowKit Go.Sort Go.Shelf
set_option linter.unusedVariables false

theorem nan_any (n : Int) (w : World) : Calls Try.prog 60 #[.int .i64 n] w fun e w' => e = .returned (.bool false) ∧ w' = w := by
  have e1 : (n != n) = false := by simp
  go_enter Try.func60, Try.ntmps60
  go_wp2
  go_ret
  exact ⟨rfl, rfl⟩

theorem compare_any (p q : Int) (w : World) : Calls Try.prog 43 #[.int .i64 p, .int .i64 q] w fun e w' => e = .returned (.int .i64 (Lib.compareInt p q)) ∧ w' = w := by
  by_cases h1 : p < q
  · have hr : Hid (Lib.compareInt p q = -1) := by show _ = _; unfold Lib.compareInt; rw [if_pos h1]
    go_enter Try.func43, Try.ntmps43
    go_wp2_with (go_at_call 60; refine (nan_any _ _).mono ?_; rintro e w1 ⟨rfl, rfl⟩)
    go_ret
    exact ⟨ret_int hr.out.symm, rfl⟩
  · have h1' : decide (p < q) = false := by simpa using h1
    by_cases h2 : q < p
    · have hr : Hid (Lib.compareInt p q = 1) := by show _ = _; unfold Lib.compareInt; rw [if_neg h1, if_pos h2]
      clear h1
      go_enter Try.func43, Try.ntmps43
      go_wp2_with (go_at_call 60; refine (nan_any _ _).mono ?_; rintro e w1 ⟨rfl, rfl⟩)
      go_ret
      exact ⟨ret_int hr.out.symm, rfl⟩
    · have hr : Hid (Lib.compareInt p q = 0) := by show _ = _; unfold Lib.compareInt; rw [if_neg h1, if_neg h2]
      have h2' : decide (q < p) = false := by simpa using h2
      clear h1 h2
      go_enter Try.func43, Try.ntmps43
      go_wp2_with (go_at_call 60; refine (nan_any _ _).mono ?_; rintro e w1 ⟨rfl, rfl⟩)
      go_ret
      exact ⟨ret_int hr.out.symm, rfl⟩


def cmpS (x y : Ev) : Int := Lib.compareInt x.a y.a
theorem grow2 (w : World) (o1 o2 : Obj) : (w.alloc o1).alloc o2 = grow (w.drewN 0) #[o1, o2] := by
  rw [alloc_eq_grow, alloc_eq_grow, grow_grow]
  rfl
set_option maxHeartbeats 1000000 in
theorem cmpOp_lays : CmpOk 42 cmpS := by
  intro x y w
  go_enter Try.func42, Try.ntmps42
  go_wp2_with (go_at_call 43; refine (compare_any _ _ _).mono ?_; rintro e w1 ⟨rfl, rfl⟩)
  go_ret
  exact ⟨rfl, 0, _, grow2 _ _ _⟩
theorem lt_ltS : Go.Proofs.ltOf cmpS = ltS := by
  funext x y
  unfold Go.Proofs.ltOf cmpS ltS Lib.compareInt
  by_cases h1 : x.a < y.a
  · simp [h1]
  · by_cases h2 : y.a < x.a <;> simp [h1, h2]
theorem swoS : SWO (Go.Proofs.ltOf cmpS) where
  irrefl x := by rw [lt_ltS]; unfold ltS; simp
  trans x y z h1 h2 := by rw [lt_ltS] at *; unfold ltS at *; simp at *; omega
  ntrans x y z h1 h2 := by rw [lt_ltS] at *; unfold ltS at *; simp at *; omega

/-- ops of rising Id -/
def UpS (L : List Ev) : Prop := L.Pairwise fun x y => x.a < y.a
/-- ops of one Id are one -/
def Agr (L : List Ev) : Prop := ∀ x ∈ L, ∀ y ∈ L, x.a = y.a → x = y
theorem UpS.nodup {L : List Ev} (h : UpS L) : L.Nodup := List.Pairwise.imp (fun {x y} hxy e => by subst e; omega) h
theorem upS_unique {l l' : List Ev} (h : UpS l) (h' : UpS l') (hm : ∀ x, x ∈ l ↔ x ∈ l') : l = l' :=
  List.Perm.eq_of_pairwise (le := fun a b : Ev => a.a < b.a) (fun a b _ _ h1 h2 => by omega) h h' ((List.perm_ext_iff_of_nodup h.nodup h'.nodup).2 hm)
theorem UpS.agr {L : List Ev} (h : UpS L) : Agr L := by
  intro x hx y hy he
  obtain ⟨i, hi, rfl⟩ := List.getElem_of_mem hx
  obtain ⟨j, hj, rfl⟩ := List.getElem_of_mem hy
  unfold UpS at h
  rw [List.pairwise_iff_getElem] at h
  rcases Nat.lt_trichotomy i j with hlt | heq | hlt
  · have := h i j hi hj hlt; omega
  · subst heq; rfl
  · have := h j i hj hi hlt; omega
theorem seqL_up {L : List Ev} (h : seqL L = true) : UpS L := by
  unfold seqL seqB at h
  simp only [Bool.and_eq_true] at h
  unfold UpS
  rw [List.pairwise_iff_getElem]
  intro i j hi hj hij
  have := rise_lt h.2 (j - i - 1) i (by omega)
  rw [show i + (j - i - 1) + 1 = j by omega] at this
  simpa [List.getD_eq_getElem?_getD, hi, hj] using this
theorem same_eq {x y : Ev} (h : Ev.same x y = true) : x = y := (same_iff x y).1 h
theorem putS_iff (s x : Ev) : ∀ L : List Ev, Agr (s :: L) → (x ∈ putS L s ↔ x ∈ L ∨ x = s)
  | [], _ => by simp [putS]
  | y :: l, hA => by
    have hl : Agr (s :: l) := fun a ha b hb => hA a (by
      rcases List.mem_cons.1 ha with h | h
      · rw [h]; exact List.mem_cons_self
      · exact List.mem_cons_of_mem _ (List.mem_cons_of_mem _ h)) b (by
      rcases List.mem_cons.1 hb with h | h
      · rw [h]; exact List.mem_cons_self
      · exact List.mem_cons_of_mem _ (List.mem_cons_of_mem _ h))
    unfold putS
    split
    · rw [List.mem_cons, putS_iff s x l hl, List.mem_cons, or_assoc]
    · split
      · rename_i h
        have he : y = s := hA y (List.mem_cons_of_mem _ List.mem_cons_self) s List.mem_cons_self (by unfold idS at h; simpa using h)
        subst he
        simp only [List.mem_cons]
        constructor
        · exact fun h => .inl h
        · rintro (h | h)
          · exact h
          · exact .inl h
      · simp only [List.mem_cons]
        constructor
        · rintro (h | h | h)
          · exact .inr h
          · exact .inl (.inl h)
          · exact .inl (.inr h)
        · rintro ((h | h) | h)
          · exact .inr (.inl h)
          · exact .inr (.inr h)
          · exact .inl h
theorem putS_up (s : Ev) : ∀ L : List Ev, UpS L → UpS (putS L s)
  | [], _ => by simp [putS, UpS]
  | x :: l, h => by
    obtain ⟨h1, h2⟩ := List.pairwise_cons.1 h
    unfold putS
    split
    · rename_i hx
      refine List.pairwise_cons.2 ⟨fun y hy => ?_, putS_up s l h2⟩
      rcases putS_mem s y l hy with h' | rfl
      · exact h1 y h'
      · unfold ltS at hx; simpa using hx
    · rename_i hx
      split
      · exact h
      · rename_i hne
        have hsx : s.a < x.a := by
          unfold ltS at hx
          unfold idS at hne
          simp at hx hne
          omega
        refine List.pairwise_cons.2 ⟨fun y hy => ?_, h⟩
        rcases List.mem_cons.1 hy with rfl | h'
        · exact hsx
        · have := h1 y h'; omega
theorem Agr.sub {L M : List Ev} (h : Agr L) (hs : ∀ x ∈ M, x ∈ L) : Agr M := fun x hx y hy => h x (hs x hx) y (hs y hy)
theorem mergeS_up (A : List Ev) (hA : UpS A) : ∀ B : List Ev, UpS (mergeS A B) := by
  intro B
  induction B generalizing A with
  | nil => exact hA
  | cons x l ih => exact ih (putS A x) (putS_up x A hA)
theorem mergeS_iff (x : Ev) : ∀ (B A : List Ev), Agr (A ++ B) → (x ∈ mergeS A B ↔ x ∈ A ∨ x ∈ B) := by
  intro B
  induction B with
  | nil => intro A _; simp [mergeS]
  | cons y l ih =>
    intro A hA
    have h1 : Agr (y :: A) := hA.sub fun z hz => by
      rcases List.mem_cons.1 hz with h | h
      · rw [h]; exact List.mem_append_right _ List.mem_cons_self
      · exact List.mem_append_left _ h
    have h2 : Agr (putS A y ++ l) := hA.sub fun z hz => by
      rcases List.mem_append.1 hz with h | h
      · rcases putS_mem y z A h with h | h
        · exact List.mem_append_left _ h
        · rw [h]; exact List.mem_append_right _ List.mem_cons_self
      · exact List.mem_append_right _ (List.mem_cons_of_mem _ h)
    show x ∈ mergeS (putS A y) l ↔ _
    rw [ih (putS A y) h2, putS_iff y x A h1, List.mem_cons, or_assoc]

theorem keepAt_no {L : List Ev} {n : Nat} (h : keepAt L n = false) : n ≠ 0 ∧ L.getD n evZ = L.getD (n - 1) evZ := by
  unfold keepAt at h
  rw [Bool.or_eq_false_iff] at h
  refine ⟨by have := h.1; simpa using this, same_eq (by have := h.2; simpa only [Bool.not_eq_false'] using this)⟩
theorem cptTo_sub (L : List Ev) (n : Nat) (hn : n ≤ L.length) : ∀ x ∈ cptTo L n, x ∈ L := by
  intro x hx
  unfold cptTo at hx
  obtain ⟨i, hi, rfl⟩ := List.mem_map.1 hx
  have := List.mem_range.1 (List.mem_filter.1 hi).1
  simp [List.getD_eq_getElem?_getD, show i < L.length by omega]
/-- what is left of a list that is sorted by Id, ops of one Id being one, rises -/
theorem cptTo_upS (L : List Ev) (hA : Agr L) (hs : ∀ i j, i < j → j < L.length → ltS (L.getD j evZ) (L.getD i evZ) = false) : ∀ n, n ≤ L.length → UpS (cptTo L n) ∧ (0 < n → ∃ l, cptTo L n = l ++ [L.getD (n - 1) evZ])
  | 0, _ => ⟨List.Pairwise.nil, fun h => absurd h (Nat.lt_irrefl _)⟩
  | n + 1, hn => by
    obtain ⟨h1, h3⟩ := cptTo_upS L hA hs n (by omega)
    have mem : ∀ i, i < L.length → L.getD i evZ ∈ L := fun i hi => by simp [List.getD_eq_getElem?_getD, hi]
    by_cases hk : keepAt L n = true
    · rw [cptTo_yes hk]
      refine ⟨?_, fun _ => ⟨cptTo L n, rfl⟩⟩
      refine List.pairwise_append.2 ⟨h1, by simp, fun x hx y hy => ?_⟩
      simp only [List.mem_singleton] at hy
      subst hy
      by_cases hn0 : n = 0
      · subst hn0; simp [cptTo] at hx
      · have hlast : (L.getD (n - 1) evZ).a < (L.getD n evZ).a := by
          have h5 := hs (n - 1) n (by omega) (by omega)
          unfold ltS at h5
          simp only [decide_eq_false_iff_not] at h5
          by_cases he : (L.getD (n - 1) evZ).a = (L.getD n evZ).a
          · have := hA _ (mem (n - 1) (by omega)) _ (mem n (by omega)) he
            unfold keepAt at hk
            rw [this, Ev.same_refl] at hk
            simp at hk
            exact absurd hk hn0
          · omega
        obtain ⟨l, hl⟩ := h3 (by omega)
        rw [hl] at hx h1
        rcases List.mem_append.1 hx with hx | hx
        · have := (List.pairwise_append.1 h1).2.2 x hx _ (List.mem_singleton_self _)
          omega
        · simp only [List.mem_singleton] at hx
          subst hx
          exact hlast
    · have hk' : keepAt L n = false := by simpa using hk
      rw [cptTo_no hk']
      refine ⟨h1, fun _ => ?_⟩
      obtain ⟨hn0, he⟩ := keepAt_no hk'
      obtain ⟨l, hl⟩ := h3 (by omega)
      exact ⟨l, by rw [hl, show n + 1 - 1 = n by omega, he]⟩
theorem cptTo_mem (L : List Ev) : ∀ n, n ≤ L.length → ∀ i, i < n → L.getD i evZ ∈ cptTo L n
  | 0, _, i, hi => absurd hi (Nat.not_lt_zero _)
  | n + 1, hn, i, hi => by
    by_cases hk : keepAt L n = true
    · rw [cptTo_yes hk]
      rcases Nat.lt_succ_iff_lt_or_eq.1 hi with h | rfl
      · exact List.mem_append_left _ (cptTo_mem L n (by omega) i h)
      · exact List.mem_append_right _ (List.mem_singleton_self _)
    · have hk' : keepAt L n = false := by simpa using hk
      rw [cptTo_no hk']
      rcases Nat.lt_succ_iff_lt_or_eq.1 hi with h | rfl
      · exact cptTo_mem L n (by omega) i h
      · obtain ⟨hn0, he⟩ := keepAt_no hk'
        rw [he]
        exact cptTo_mem L i (by omega) (i - 1) (by omega)


theorem cptL_mem (L : List Ev) (x : Ev) : x ∈ cptL L ↔ x ∈ L := by
  constructor
  · exact cptTo_sub L L.length (Nat.le_refl _) x
  · intro hx
    obtain ⟨i, hi, rfl⟩ := List.getElem_of_mem hx
    have := cptTo_mem L L.length (Nat.le_refl _) i hi
    show _ ∈ cptTo L L.length
    simpa [List.getD_eq_getElem?_getD, hi] using this

/-- sorting both and leaving out equal neighbours gives a right sequence just where no Id has unlike ops and putting the ones into the others does, and then it is that -/
theorem sorted_mergeS {A B L : List Ev} (hA : seqL A = true) (hB : seqL B = true) (hp : L.Perm (A ++ B)) (hs : ∀ i j, i < j → j < L.length → ltS (L.getD j evZ) (L.getD i evZ) = false) :
    seqL (cptL L) = (allB (fun i => okB A (B.getD i evZ)) B.length && seqL (mergeS A B)) ∧ (seqL (cptL L) = true → cptL L = mergeS A B) := by
  have upA := seqL_up hA
  have upB := seqL_up hB
  cases hok : allB (fun i => okB A (B.getD i evZ)) B.length with
  | true =>
    have agr : Agr (A ++ B) := by
      have cross : ∀ x ∈ A, ∀ y ∈ B, x.a = y.a → x = y := by
        intro x hx y hy he
        obtain ⟨k, hk, rfl⟩ := List.getElem_of_mem hy
        have h1 := allB_at hok hk
        have hg : B.getD k evZ = B[k] := by simp [List.getD_eq_getElem?_getD, hk]
        rw [hg] at h1
        obtain ⟨i, hi, rfl⟩ := List.getElem_of_mem hx
        have hgi : A.getD i evZ = A[i] := by simp [List.getD_eq_getElem?_getD, hi]
        cases hf : firstA (fun i => A.getD i evZ) (B[k]).a A.length with
        | none => exact absurd (by rw [hgi]; exact he) (firstA_none hf i hi)
        | some j =>
          rw [okB_some hf] at h1
          obtain ⟨hj, hja⟩ := firstA_some hf
          have hgj : A.getD j evZ = A[j] := by simp [List.getD_eq_getElem?_getD, hj]
          rw [hgj] at h1 hja
          rw [← same_eq h1]
          exact upA.agr _ hx _ (List.getElem_mem hj) (by rw [hja]; exact he)
      intro x hx y hy he
      rcases List.mem_append.1 hx with hx | hx
      · rcases List.mem_append.1 hy with hy | hy
        · exact upA.agr x hx y hy he
        · exact cross x hx y hy he
      · rcases List.mem_append.1 hy with hy | hy
        · exact (cross y hy x hx he.symm).symm
        · exact upB.agr x hx y hy he
    have agrL : Agr L := agr.sub fun x hx => hp.mem_iff.1 hx
    have he : cptL L = mergeS A B := by
      refine upS_unique (cptTo_upS L agrL hs L.length (Nat.le_refl _)).1 (mergeS_up A upA B) fun x => ?_
      rw [mergeS_iff x B A agr, ← List.mem_append, ← hp.mem_iff]
      exact cptL_mem L x
    rw [he]
    exact ⟨rfl, fun _ => rfl⟩
  | false =>
    have hno : seqL (cptL L) = false := by
      cases hc : seqL (cptL L) with
      | false => rfl
      | true =>
        exfalso
        have agr := (seqL_up hc).agr
        have : allB (fun i => okB A (B.getD i evZ)) B.length = true := by
          unfold allB
          rw [List.all_eq_true]
          intro k hk
          have hk := List.mem_range.1 hk
          show okB A (B.getD k evZ) = true
          cases hf : firstA (fun i => A.getD i evZ) (B.getD k evZ).a A.length with
          | none => exact okB_none hf
          | some j =>
            rw [okB_some hf]
            obtain ⟨hj, hja⟩ := firstA_some hf
            have hxA : A.getD j evZ ∈ A := by simp [List.getD_eq_getElem?_getD, hj]
            have hyB : B.getD k evZ ∈ B := by simp [List.getD_eq_getElem?_getD, hk]
            have e := agr _ ((cptL_mem L _).2 (hp.mem_iff.2 (List.mem_append_left _ hxA))) _ ((cptL_mem L _).2 (hp.mem_iff.2 (List.mem_append_right _ hyB))) hja
            rw [e]
            exact Ev.same_refl _
        rw [hok] at this
        cases this
    rw [hno]
    exact ⟨rfl, fun h => by cases h⟩
theorem cptL_in {A B L : List Ev} (hp : L.Perm (A ++ B)) (hA : InL A) (hB : InL B) : InL (cptL L) := InL.of fun x hx => by
  rcases List.mem_append.1 (hp.mem_iff.1 ((cptL_mem L x).1 hx)) with h | h
  · exact hA.mem h
  · exact hB.mem h
end Go.Proofs.Ytjfciokpnhnhbaa

namespace Go.Proofs.Ytjfciokpnhnhbaa
open Go.RowKit Go.Sort Go.Shelf
set_option linter.unusedVariables false

/-- what a merging gives: the ops of M in memory of its own, or nothing -/
def GaveV (w : World) (base : Nat) (ok : Bool) (M : List Ev) (v : Value) : Prop := (ok = false ∧ v = .slice none 0 0) ∨ (ok = true ∧ OwnV w base v M)
theorem Gave.v {w : World} {base : Nat} {ok : Bool} {M : List Ev} {v : Value} (h : Gave w base ok M v) : GaveV w base ok M v := by
  rcases h with h | ⟨h, g, gc, rfl, ho⟩
  · exact .inl h
  · exact .inr ⟨h, ho.v⟩
theorem implSeqV (base : Nat) (v : Value) (L : List Ev) (w : World) (h : OwnV w base v L) (hI : InL L) (x : Bool) (hx : seqL L = x) :
    Calls Try.prog 24 #[v] w fun e w' => e = .returned (.bool x) ∧ Below w.heap.size w w' := by
  rcases h.cases with ⟨rfl, rfl⟩ | ⟨g, cap, rfl, hO⟩
  · rw [← hx]
    exact implSeq_any _ _ _ _ w ⟨Nat.le_refl _, by omega, fun h => absurd h (Nat.lt_irrefl _)⟩ hI
  · exact implSeqL g 0 cap L w hO.lies.1 hO.lies.2.1 hO.caps.1 hO.caps.2 hI x hx
theorem enters_cmp : ∀ args w, (callFunc 42 args).run Try.prog w = .ok (.enter 42 args) w := enters_of Try.func42 (by kernel_rfl) rfl

set_option maxRecDepth 10000 in
set_option maxHeartbeats 4000000 in
theorem implMerged_any (b1 o1 c1 b2 o2 c2 : Nat) (A B : List Ev) (w : World) (h1 : Lies w b1 o1 A) (hb1 : b1 < w.heap.size) (hl1 : A.length ≤ c1) (hc1 : c1 ≤ 9223372036854775807) (h2 : Lies w b2 o2 B) (hb2 : b2 < w.heap.size) (hl2 : B.length ≤ c2) (hc2 : c2 ≤ 9223372036854775807) (hIA : InL A) (hIB : InL B) :
    Calls Try.prog 14 #[.slice (some ⟨b1, o1, none⟩) A.length c1, .slice (some ⟨b2, o2, none⟩) B.length c2] w fun e w' => ∃ v, e = .returned (.tuple #[v, .bool (mergedB A B)]) ∧ GaveV w' w.heap.size (mergedB A B) (mergeS A B) v ∧ Below w.heap.size w w' := by
  have HL1 : Hid (Lies w b1 o1 A) := h1
  have HL2 : Hid (Lies w b2 o2 B) := h2
  have HC1 : Hid (∀ w', Below w.heap.size w w' → ∀ x, seqL A = x → Calls Try.prog 24 #[.slice (some ⟨b1, o1, none⟩) A.length c1] w' fun e w'' => e = .returned (.bool x) ∧ Below w'.heap.size w' w'') := fun w' hB x hx => implSeqL _ _ _ A w' (h1.grow hb1 hB) (by have := hB.size; omega) hl1 hc1 hIA x hx
  have HC2 : Hid (∀ w', Below w.heap.size w w' → ∀ x, seqL B = x → Calls Try.prog 24 #[.slice (some ⟨b2, o2, none⟩) B.length c2] w' fun e w'' => e = .returned (.bool x) ∧ Below w'.heap.size w' w'') := fun w' hB x hx => implSeqL _ _ _ B w' (h2.grow hb2 hB) (by have := hB.size; omega) hl2 hc2 hIB x hx
  clear h1 h2
  cases hA : seqL A with
  | false =>
    have hr : Hid (mergedB A B = false) := by show _ = _; unfold mergedB; rw [hA]; rfl
    go_enter Try.func14, Try.ntmps14
    go_wp2_with fail
    refine (HC1.out _ (Below.refl _ _) false hA).mono ?_
    rintro e w1 ⟨rfl, hB1⟩
    go_wp2
    go_ret2
    rw [hr.out]
    exact ⟨_, rfl, .inl ⟨rfl, rfl⟩, hB1⟩
  | true =>
    have hn30 : A.length ≤ 1000 := Nat.le_trans (seqL_len hA) (by decide)
    cases hB : seqL B with
    | false =>
      have hr : Hid (mergedB A B = false) := by show _ = _; unfold mergedB; rw [hA, hB]; rfl
      go_enter Try.func14, Try.ntmps14
      go_wp2_with fail
      refine (HC1.out _ (Below.refl _ _) true hA).mono ?_
      rintro e w1 ⟨rfl, hB1⟩
      go_wp2_with fail
      refine (HC2.out _ hB1 false hB).mono ?_
      rintro e w2 ⟨rfl, hB2⟩
      go_wp2
      go_ret2
      rw [hr.out]
      exact ⟨_, rfl, .inl ⟨rfl, rfl⟩, hB1.trans (hB2.mono hB1.size)⟩
    | true =>
      have hm30 : B.length ≤ 1000 := Nat.le_trans (seqL_len hB) (by decide)
      have hr : Hid (mergedB A B = (allB (fun i => okB A (B.getD i evZ)) B.length && seqL (mergeS A B))) := by show _ = _; unfold mergedB; rw [hA, hB]; rfl
      go_enter Try.func14, Try.ntmps14
      go_wp2_with fail
      refine (HC1.out _ (Below.refl _ _) true hA).mono ?_
      rintro e w1 ⟨rfl, hB1⟩
      go_wp2_with fail
      refine (HC2.out _ hB1 true hB).mono ?_
      rintro e w2 ⟨rfl, hB2'⟩
      have hB2 : Below w.heap.size w w2 := hB1.trans (hB2'.mono hB1.size)
      clear hB1 hB2'
      have HB2 : Hid (Below w.heap.size w w2) := hB2
      clear hB2
      go_wp2_with fail
      refine (concat_any w2.heap.size b1 o1 c1 b2 o2 c2 A B _ (cellN (heap_alloc_new _ _)) (cellN (heap_alloc_new _ _)) (HL1.out.grow hb1 (HB2.out.alloc HB2.out.size _)) (by have := HB2.out.size; simp; omega) (HL2.out.grow hb2 (HB2.out.alloc HB2.out.size _)) (by have := HB2.out.size; simp; omega) hn30 hm30).mono ?_
      rintro e w3 ⟨v3, rfl, hO3, hB3'⟩
      have hS3 : w.heap.size ≤ (w2.alloc (.cells #[.slice (some ⟨b1, o1, none⟩) A.length c1, .slice (some ⟨b2, o2, none⟩) B.length c2] 24)).heap.size := by have := HB2.out.size; simp; omega
      have hB3 : Below w.heap.size w w3 := (HB2.out.alloc HB2.out.size _).trans (hB3'.mono hS3)
      have hO3' : OwnV w3 w.heap.size v3 (A ++ B) := hO3.base hS3
      clear hO3 hB3' hS3
      go_wp2_with fail
      refine (sort_any 42 cmpS swoS cmpOp_lays enters_cmp w.heap.size v3 (A ++ B) w3 hO3' (by rw [List.length_append]; omega)).mono ?_
      rintro e w4 ⟨rfl, L, hp, hs, hO4, hG4⟩
      have hB4 : Below w.heap.size w w4 := hB3.grown hG4 hB3.size (fun x hx => (World.ownsRow.lt hO3' x hx).1)
      rw [lt_ltS] at hs
      have hM := sorted_mergeS hA hB hp hs
      have hIc : InL (cptL L) := cptL_in hp hIA hIB
      have hLl : L.length ≤ 1000000 := by rw [hp.length_eq, List.length_append]; omega
      clear hO3' hB3 hG4 hs hp
      have HM : Hid (_) := hM
      have HIC : Hid (InL (cptL L)) := hIc
      clear hIc
      clear hM
      go_wp2_with fail
      refine (compact_any w.heap.size v3 L w4 hO4 hLl).mono ?_
      rintro e w5 ⟨v5, rfl, hO5, hG5⟩
      have hB5 : Below w.heap.size w w5 := hB4.grown hG5 hB4.size (fun x hx => (World.ownsRow.lt hO4 x hx).1)
      clear hO4 hB4 hG5
      have HO5 : Hid (OwnV w5 w.heap.size v5 (cptL L)) := hO5
      have HB5 : Hid (Below w.heap.size w w5) := hB5
      clear hO5 hB5
      cases hMc : seqL (cptL L) with
      | false =>
        go_wp2_with fail
        refine (implSeqV w.heap.size v5 (cptL L) w5 HO5.out HIC.out false hMc).mono ?_
        rintro e w6 ⟨rfl, hB6⟩
        go_wp2
        go_ret2
        rw [hr.out, ← HM.out.1, hMc]
        exact ⟨_, rfl, .inl ⟨rfl, rfl⟩, HB5.out.trans (hB6.mono HB5.out.size)⟩
      | true =>
        go_wp2_with fail
        refine (implSeqV w.heap.size v5 (cptL L) w5 HO5.out HIC.out true hMc).mono ?_
        rintro e w6 ⟨rfl, hB6⟩
        go_wp2
        go_ret2
        rw [hr.out, ← HM.out.1, hMc]
        exact ⟨_, rfl, .inr ⟨rfl, by rw [← HM.out.2 hMc]; exact HO5.out.below hB6⟩, HB5.out.trans (hB6.mono HB5.out.size)⟩
end Go.Proofs.Ytjfciokpnhnhbaa
