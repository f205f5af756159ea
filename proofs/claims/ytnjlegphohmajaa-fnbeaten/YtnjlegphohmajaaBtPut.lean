/-
  The specification's putting of one beat among others. No condition but that the slice reads.
-/
import Derived.Test.YtnjlegphohmajaaBtC
namespace Go.Proofs.Ytnjlegphohmajaa
open Go.RowKit
set_option linter.unusedVariables false

/-- of two beats of one the later one -/
def pick (s y : Ev) : Ev := if later s y = true then s else y
/-- beats with one more -/
def putB : List Ev → Ev → List Ev
  | [], s => [s]
  | x :: l, s => if x.a < s.a then x :: putB l s else if x.a = s.a then pick s x :: l else s :: x :: l

/-- what putB is where the first k stand ahead and the next does not -/
theorem putB_at (s : Ev) : ∀ (L : List Ev) (k : Nat), k ≤ L.length → (∀ i, i < k → (L.getD i evZ).a < s.a) → (k < L.length → ¬ (L.getD k evZ).a < s.a) →
    putB L s = if k < L.length ∧ (L.getD k evZ).a = s.a then L.take k ++ [pick s (L.getD k evZ)] ++ L.drop (k + 1) else L.take k ++ [s] ++ L.drop k
  | [], k, hk, _, _ => by
    obtain rfl : k = 0 := by simpa using hk
    simp [putB]
  | x :: l, 0, _, _, h0 => by
    have hx : ¬ x.a < s.a := h0 (Nat.zero_lt_succ _)
    unfold putB
    rw [if_neg hx]
    by_cases e : x.a = s.a
    · rw [if_pos e, if_pos ⟨Nat.zero_lt_succ _, e⟩]
      rfl
    · rw [if_neg e, if_neg (fun h => e h.2)]
      rfl
  | x :: l, k + 1, hk, hi, h0 => by
    have hx : x.a < s.a := hi 0 (Nat.zero_lt_succ _)
    have ih := putB_at s l k (by simpa using hk) (fun i h => by simpa using hi (i + 1) (by omega)) (fun h => by simpa using h0 (by simp; omega))
    rw [show putB (x :: l) s = x :: putB l s by rw [putB, if_pos hx], ih]
    by_cases c : k < l.length ∧ (l.getD k evZ).a = s.a
    · rw [if_pos c, if_pos ⟨by simp; omega, by simpa using c.2⟩]
      simp
    · rw [if_neg c, if_neg (fun h => c ⟨by have := h.1; simp at this; omega, by simpa using h.2⟩)]
      simp
theorem putB_len (s : Ev) : ∀ L : List Ev, (putB L s).length ≤ L.length + 1
  | [] => by simp [putB]
  | x :: l => by
    have := putB_len s l
    unfold putB
    split
    · simp; omega
    · split <;> simp
theorem later_later {x y : Ev} {b : Bool} (hb : later x y = b) {w : World} (t : Later w) : Calls Try.prog 61 #[.agg #[.int .i64 (x).a, .int .i64 (x).b, .int .i64 (x).c, .string (x).d], .agg #[.int .i64 (y).a, .int .i64 (y).b, .int .i64 (y).c, .string (y).d]] t.val fun e w'' => e = .returned (.bool b) ∧ ∃ s' : Later w, w'' = s'.val :=
  Calls.later (later_any x y b hb t.val)

set_option maxRecDepth 10000 in
set_option maxHeartbeats 8000000 in
theorem put_any (b off cap : Nat) (L : List Ev) (x : Ev) (w : World) (h : Lies w b off L) (hb : b < w.heap.size) (hl : L.length ≤ cap) (hc : cap ≤ 9223372036854775807) (h1 : L.length ≤ 2000000) :
    Calls Try.prog 44 #[.slice (some ⟨b, off, none⟩) L.length cap, .agg #[.int .i64 (x).a, .int .i64 (x).b, .int .i64 (x).c, .string (x).d]] w fun e w' => ∃ g gc, e = .returned (.slice (some ⟨g, 0, none⟩) (putB L x).length gc) ∧ OwnE w' w.heap.size g gc (putB L x) ∧ Below w.heap.size w w' := by
  obtain ⟨i0, hi, hz0, hz1, hz2⟩ := info_parts infoE
  obtain ⟨n, hn⟩ : ∃ n, n = L.length := ⟨_, rfl⟩
  have HL0 : Hid (Lies w b off L) := h
  rw [← hn] at hl h1 ⊢
  have HN : Hid (n = L.length) := hn
  clear h hn
  go_enter Try.func44, Try.ntmps44
  go_wp2
  obtain ⟨W, hW⟩ : ∃ W, W = w.alloc (.cells #[.int .i64 x.a, .int .i64 x.b, .int .i64 x.c, .string x.d] 32) := ⟨_, rfl⟩
  rw [← hW]
  have hBW : Below w.heap.size w W := by rw [hW]; exact (Below.refl _ _).alloc (Nat.le_refl _) _
  have hWs : W.heap.size = w.heap.size + 1 := by rw [hW]; simp
  have g1 : W.heap[w.heap.size]? = some (.cells #[.int .i64 x.a, .int .i64 x.b, .int .i64 x.c, .string x.d] 32) := by rw [hW]; exact heap_alloc_new _ _
  have HBW : Hid (Below w.heap.size w W) := hBW
  have HL : Hid (Lies W b off L) := HL0.out.grow hb hBW
  have HbW : Hid (b < W.heap.size) := by show _ < _; omega
  have HE : Hid (∀ w', Below W.heap.size W w' → w'.cell? ⟨w.heap.size, 0, none⟩ = some (.int .i64 x.a) ∧ w'.cell? ⟨w.heap.size, 1, none⟩ = some (.int .i64 x.b) ∧ w'.cell? ⟨w.heap.size, 2, none⟩ = some (.int .i64 x.c) ∧ w'.cell? ⟨w.heap.size, 3, none⟩ = some (.string x.d)) := by
    intro w' hB
    have hh := (hB.block _ (lt_of_block g1)).trans g1
    exact ⟨cellN hh, cellN hh, cellN hh, cellN hh⟩
  clear hW hBW hWs g1 HL0
  go_loopw [5] (fun i wr => ∃ (k : Nat), k ≤ n ∧ i = .int .i64 k ∧ Hid (∀ j, j < k → (L.getD j evZ).a < x.a) ∧ Below W.heap.size W wr) (fun i _ => n - (intOf i).toNat)
  case atStart => exact ⟨0, Nat.zero_le _, rfl, fun j hj => absurd hj (Nat.not_lt_zero _), Below.refl _ _⟩
  case round =>
    obtain ⟨k, hk, rfl, HR, hB⟩ := hrel
    have HB : Hid (Below W.heap.size W wr) := hB
    have hne := Later.any wr
    have HEs : Hid (_) := HE.out wr hB
    have p0 : ∀ s : Later wr, s.val.cell? ⟨w.heap.size, 0, none⟩ = some (.int .i64 x.a) := fun s => s.cell HEs.out.1
    by_cases hlt : k < n
    · have hltI : (k : Int) < (n : Int) := by omega
      obtain ⟨y, hy⟩ : ∃ y, y = L.getD k evZ := ⟨_, rfl⟩
      have m1 : EvAt wr b (off + k * 4) y := by rw [hy]; exact (HL.out k (by rw [← HN.out]; exact hlt)).grow HbW.out hB
      have HQ : Hid (∀ w', Below W.heap.size W w' → w'.cell? ⟨b, off + k * 4, none⟩ = some (.int .i64 y.a) ∧ w'.cell? ⟨b, off + k * 4 + 1, none⟩ = some (.int .i64 y.b) ∧ w'.cell? ⟨b, off + k * 4 + 2, none⟩ = some (.int .i64 y.c) ∧ w'.cell? ⟨b, off + k * 4 + 3, none⟩ = some (.string y.d)) := by
        intro w' hB'
        obtain ⟨a0, a1, a2, a3⟩ := (HL.out k (by rw [← HN.out]; exact hlt)).grow HbW.out hB'
        rw [← hy] at a0 a1 a2 a3
        exact ⟨a0, a1, a2, a3⟩
      have HY : Hid (y = L.getD k evZ) := hy
      have q0 : ∀ s : Later wr, s.val.cell? ⟨b, off + k * 4, none⟩ = some (.int .i64 y.a) := fun s => s.cell m1.c0
      have q1 : ∀ s : Later wr, s.val.cell? ⟨b, off + k * 4 + 1, none⟩ = some (.int .i64 y.b) := fun s => s.cell m1.c1
      have q2 : ∀ s : Later wr, s.val.cell? ⟨b, off + k * 4 + 2, none⟩ = some (.int .i64 y.c) := fun s => s.cell m1.c2
      have q3 : ∀ s : Later wr, s.val.cell? ⟨b, off + k * 4 + 3, none⟩ = some (.string y.d) := fun s => s.cell m1.c3
      clear m1 hB hy
      by_cases hq : y.a < x.a
      · have HR' : Hid (∀ j, j < k + 1 → (L.getD j evZ).a < x.a) := by
          intro j hj
          rcases Nat.lt_succ_iff_lt_or_eq.1 hj with h1 | rfl
          · exact HR.out j h1
          · rw [← HY.out]; exact hq
        go_wp2
        refine wp_region_later (by kernel_rfl) (by kernel_rfl) ?_
        repeat (go_big_quiet_step (fail))
        refine wpQuiet_nil ?_
        rintro _ ⟨⟨w', hB2⟩, rfl⟩
        go_wp2
        go_roundw
        case rel => exact ⟨k + 1, by omega, by go_num, HR', HB.out.trans (hB2.mono HB.out.size)⟩
        case measure => simp [intOf]; omega
      · have hn := HN.out
        have hat := putB_at x L k (by omega) HR.out (fun _ => by rw [← HY.out]; exact hq)
        have hkl : (L.take k).length = k := by rw [List.length_take]; omega
        have HKL : Hid ((L.take k).length = k) := hkl
        have hqd : decide (y.a < x.a) = false := by simpa using hq
        by_cases he : y.a = x.a
        · rw [if_pos ⟨by omega, by rw [← HY.out]; exact he⟩, ← HY.out] at hat
          have heb : (y.a == x.a) = true := by simpa using he
          have HDL : Hid ((L.drop (k + 1)).length = n - (k + 1)) := by show _ = _; rw [List.length_drop]; omega
          clear hkl hn hq he
          by_cases hcap : cap = k + 1
          · have HDE : Hid (L.drop (k + 1) = []) := by show _ = _; have := HN.out; exact List.drop_eq_nil_of_le (by omega)
            obtain rfl : n = k + 1 := by omega
            subst hcap
            rw [HDE.out, List.append_nil] at hat
            have hlt2 : (k : Int) < (k : Int) + 1 := by omega
            have hlt3 : decide ((k : Int) < (k : Int) + 1) = true := by simp; omega
            clear hltI
            cases hlq : later x y with
            | true =>
              have HP : Hid (putB L x = L.take k ++ [x]) := by
                show _ = _
                rw [hat]; unfold pick; rw [hlq]; rfl
              clear hat
              go_wp2
              refine wp_region_later (by kernel_rfl) (by kernel_rfl) ?_
              repeat (go_big_quiet_step (fail))
              refine wpQuiet_nil ?_
              rintro wq ⟨s, hs⟩
              have hBq0 : Below wr.heap.size wr wq := by rw [hs]; exact s.ok
              clear hs s
              have HBq : Hid (Below W.heap.size W wq) := HB.out.trans (hBq0.mono HB.out.size)
              clear hBq0
              have hc1 : Hid (0 + k ≤ maxLen) := by show _ ≤ _; unfold maxLen; omega
              have hc2 : Hid ((0 + k) * 40 ≤ 140737488355328) := by show _ ≤ _; omega
              have hc3 : Hid (k + 1 ≤ maxLen) := by show _ ≤ _; unfold maxLen; omega
              have hc4 : Hid ((k + 1) * 40 ≤ 140737488355328) := by show _ ≤ _; omega
              have hc5 : Hid (k + 1 + 0 ≤ maxLen) := by show _ ≤ _; unfold maxLen; omega
              have hc6 : Hid ((k + 1 + 0) * 40 ≤ 140737488355328) := by show _ ≤ _; omega
              have HW : Hid (Lies (wq.alloc (.cells #[] 32)) b off (L.take k)) := (HL.out.take k).grow HbW.out (HBq.out.alloc HBq.out.size _)
              clear q0 q1 q2 q3 p0
              go_wp2_with (first
                | (at_builtin
                   refine wpList_append_own _ rfl _ _ 24 rfl W.heap.size 32 i0 (.agg #[.int .i64 0, .int .i64 0, .int .i64 0, .string ⟨#[]⟩]) 4 40 Try.underlying24 hi hz0 hz1 hz2 rfl (by decide) _ 0 [] rfl (World.ownsRow_made wq #[] 0 HBq.out.size (by decide) rfl) ⟨b, off, none⟩ k (k + 1) (cellsL (L.take k)) rfl (by rw [cellsL_len, HKL.out]) HW.out.news (oneL _) hc1.out hc2.out (by have := HBq.out.size; simp; omega) ?_
                   intro v' w3 hown hgrow hnil
                   obtain ⟨g, gc, rfl, hf⟩ := own_form hown (L := L.take k) (by rw [HKL.out, Nat.zero_add]) (List.nil_append _) (fun e => by have := (hnil.1 e).1; cases this)
                   have hB3 : Below W.heap.size W w3 := (HBq.out.alloc HBq.out.size _).grown hgrow (by have := HBq.out.size; simp; omega) (fun x hx => by have hx' : some wq.heap.size = some x := hx; cases hx'; exact HBq.out.size)
                   rw [HKL.out]
                   have HO3 : Hid (w3.ownsRow W.heap.size 32 4 (.slice (some ⟨g, 0, none⟩) k gc) k (cellsL (L.take k))) := own_form2 hf HKL.out
                   have HB3 : Hid (Below W.heap.size W w3) := hB3
                   obtain ⟨e0, e1, e2, e3⟩ := HE.out w3 hB3
                   obtain ⟨f0, f1, f2, f3⟩ := HQ.out w3 hB3
                   clear hown hgrow hnil hf hB3))
              have hne3 := Later.any w3
              have u0 : ∀ s : Later w3, s.val.cell? ⟨w.heap.size, 0, none⟩ = some (.int .i64 x.a) := fun s => s.cell e0
              have v0 : ∀ s : Later w3, s.val.cell? ⟨b, off + k * 4, none⟩ = some (.int .i64 y.a) := fun s => s.cell f0
              have u1 : ∀ s : Later w3, s.val.cell? ⟨w.heap.size, 1, none⟩ = some (.int .i64 x.b) := fun s => s.cell e1
              have v1 : ∀ s : Later w3, s.val.cell? ⟨b, off + k * 4 + 1, none⟩ = some (.int .i64 y.b) := fun s => s.cell f1
              have u2 : ∀ s : Later w3, s.val.cell? ⟨w.heap.size, 2, none⟩ = some (.int .i64 x.c) := fun s => s.cell e2
              have v2 : ∀ s : Later w3, s.val.cell? ⟨b, off + k * 4 + 2, none⟩ = some (.int .i64 y.c) := fun s => s.cell f2
              have u3 : ∀ s : Later w3, s.val.cell? ⟨w.heap.size, 3, none⟩ = some (.string x.d) := fun s => s.cell e3
              have v3 : ∀ s : Later w3, s.val.cell? ⟨b, off + k * 4 + 3, none⟩ = some (.string y.d) := fun s => s.cell f3
              clear e0 e1 e2 e3 f0 f1 f2 f3
              refine wp_region_later (by kernel_rfl) (by kernel_rfl) ?_
              repeat (go_big_quiet_step (fail))
              refine wpQuiet_nil ?_
              rintro w3' ⟨s, hs⟩
              have hB3 : Below w3.heap.size w3 w3' := by rw [hs]; exact s.ok
              clear hs s u0 u1 u2 u3 v0 v1 v2 v3 hne3
              have HO3' : Hid (w3'.ownsRow W.heap.size 32 4 (.slice (some ⟨g, 0, none⟩) k gc) k (cellsL (L.take k))) := ownsRow_below HO3.out hB3
              have HB3' : Hid (Below W.heap.size W w3') := HB3.out.trans (hB3.mono HB3.out.size)
              clear hB3 HO3 HB3
              obtain ⟨e0, e1, e2, e3⟩ := HE.out w3' HB3'.out
              obtain ⟨f0, f1, f2, f3⟩ := HQ.out w3' HB3'.out
              go_wp2
              have hne3 := Later.any w3'
              have u0 : ∀ s : Later w3', s.val.cell? ⟨w.heap.size, 0, none⟩ = some (.int .i64 x.a) := fun s => s.cell e0
              have v0 : ∀ s : Later w3', s.val.cell? ⟨b, off + k * 4, none⟩ = some (.int .i64 y.a) := fun s => s.cell f0
              have u1 : ∀ s : Later w3', s.val.cell? ⟨w.heap.size, 1, none⟩ = some (.int .i64 x.b) := fun s => s.cell e1
              have v1 : ∀ s : Later w3', s.val.cell? ⟨b, off + k * 4 + 1, none⟩ = some (.int .i64 y.b) := fun s => s.cell f1
              have u2 : ∀ s : Later w3', s.val.cell? ⟨w.heap.size, 2, none⟩ = some (.int .i64 x.c) := fun s => s.cell e2
              have v2 : ∀ s : Later w3', s.val.cell? ⟨b, off + k * 4 + 2, none⟩ = some (.int .i64 y.c) := fun s => s.cell f2
              have u3 : ∀ s : Later w3', s.val.cell? ⟨w.heap.size, 3, none⟩ = some (.string x.d) := fun s => s.cell e3
              have v3 : ∀ s : Later w3', s.val.cell? ⟨b, off + k * 4 + 3, none⟩ = some (.string y.d) := fun s => s.cell f3
              clear e0 e1 e2 e3 f0 f1 f2 f3
              refine wp_region_later (by kernel_rfl) (by kernel_rfl) ?_
              repeat (go_big_quiet_step ((rename_i t; with_reducible exact later_later hlq t)))
              refine wpQuiet_nil ?_
              rintro w3b ⟨s, hs⟩
              have hB3 : Below w3'.heap.size w3' w3b := by rw [hs]; exact s.ok
              clear hs s u0 u1 u2 u3 v0 v1 v2 v3 hne3
              have HO3b : Hid (w3b.ownsRow W.heap.size 32 4 (.slice (some ⟨g, 0, none⟩) k gc) k (cellsL (L.take k))) := ownsRow_below HO3'.out hB3
              have HB3b : Hid (Below W.heap.size W w3b) := HB3'.out.trans (hB3.mono HB3'.out.size)
              clear hB3 HO3' HB3'
              obtain ⟨e0, e1, e2, e3⟩ := HE.out w3b HB3b.out
              obtain ⟨f0, f1, f2, f3⟩ := HQ.out w3b HB3b.out
              go_wp2_with (first
                | (at_builtin
                   refine wpList_append_own _ rfl _ _ 24 rfl W.heap.size 32 i0 (.agg #[.int .i64 0, .int .i64 0, .int .i64 0, .string ⟨#[]⟩]) 4 40 Try.underlying24 hi hz0 hz1 hz2 rfl (by decide) _ k _ rfl (HO3b.out.alloc _) ⟨w3b.heap.size, 0, none⟩ 1 1 (enc4 x) rfl rfl (World.news_of_block (heap_alloc_new _ _)) (by rw [← cellsL_one]; exact oneL _) hc3.out hc4.out (by have := HB3b.out.size; simp; omega) ?_
                   intro v4 w4 hown4 hgrow4 hnil4
                   have hB4 : Below W.heap.size W w4 := (HB3b.out.alloc HB3b.out.size _).grown hgrow4 (by have := HB3b.out.size; simp; omega) (fun x hx => by have := (HO3b.out.lt x hx).1; exact this)
                   obtain ⟨g4, gc4, rfl, hf4⟩ := own_form hown4 (L := L.take k ++ [x]) (by rw [List.length_append, HKL.out]; rfl) (by rw [cellsL_append, cellsL_one]) (fun e => by have := (hnil4.1 e).1; cases this)
                   have hl4 : (L.take k ++ [x]).length = k + 1 := by rw [List.length_append, HKL.out]; rfl
                   rw [hl4]
                   have HO4 : Hid (w4.ownsRow W.heap.size 32 4 (.slice (some ⟨g4, 0, none⟩) (k + 1) gc4) (k + 1) (cellsL (L.take k ++ [x]))) := own_form2 hf4 hl4
                   have HB4 : Hid (Below W.heap.size W w4) := hB4
                   clear hown4 hgrow4 hnil4 hf4 hB4 hl4 e0 e1 e2 e3 f0 f1 f2 f3)
                | (at_builtin
                   first | refine wpList_append_own _ rfl _ _ 24 rfl W.heap.size 32 i0 (.agg #[.int .i64 0, .int .i64 0, .int .i64 0, .string ⟨#[]⟩]) 4 40 Try.underlying24 hi hz0 hz1 hz2 rfl (by decide) _ (k + 1) _ rfl HO4.out ⟨b, off, none⟩ 0 _ [] rfl rfl (fun j u hu => by simp at hu) (fun u hu => by simp at hu) hc5.out hc6.out HB4.out.size ?_ | refine wpList_append_own _ rfl _ _ 24 rfl W.heap.size 32 i0 (.agg #[.int .i64 0, .int .i64 0, .int .i64 0, .string ⟨#[]⟩]) 4 40 Try.underlying24 hi hz0 hz1 hz2 rfl (by decide) _ (k + 1) _ rfl HO4.out ⟨b, off + (k + 1) * 4, none⟩ 0 _ [] rfl rfl (fun j u hu => by simp at hu) (fun u hu => by simp at hu) hc5.out hc6.out HB4.out.size ?_
                   intro v5 w5 hown5 hgrow5 hnil5
                   have hB5 : Below W.heap.size W w5 := HB4.out.grown hgrow5 HB4.out.size (fun x hx => by have := (HO4.out.lt x hx).1; exact this)
                   obtain ⟨g5, gc5, rfl, hf5⟩ := own_form hown5 (L := putB L x) (by rw [HP.out, List.length_append, HKL.out]; rfl) (by rw [HP.out, List.append_nil]) (fun e => by have := (hnil5.1 e).1; cases this)
                   have HF : Hid (OwnE w5 w.heap.size g5 gc5 (putB L x) ∧ Below w.heap.size w w5) := ⟨hf5.base (by have := HBW.out.size; omega), HBW.out.trans (hB5.mono HBW.out.size)⟩
                   clear hown5 hgrow5 hnil5 hf5 hB5))
              go_wp2
              go_ret
              exact ⟨g5, gc5, rfl, HF.out.1, HF.out.2⟩
            | false =>
              have HP : Hid (putB L x = L.take k ++ [y]) := by
                show _ = _
                rw [hat]; unfold pick; rw [hlq]; rfl
              clear hat
              go_wp2
              refine wp_region_later (by kernel_rfl) (by kernel_rfl) ?_
              repeat (go_big_quiet_step (fail))
              refine wpQuiet_nil ?_
              rintro wq ⟨s, hs⟩
              have hBq0 : Below wr.heap.size wr wq := by rw [hs]; exact s.ok
              clear hs s
              have HBq : Hid (Below W.heap.size W wq) := HB.out.trans (hBq0.mono HB.out.size)
              clear hBq0
              have hc1 : Hid (0 + k ≤ maxLen) := by show _ ≤ _; unfold maxLen; omega
              have hc2 : Hid ((0 + k) * 40 ≤ 140737488355328) := by show _ ≤ _; omega
              have hc3 : Hid (k + 1 ≤ maxLen) := by show _ ≤ _; unfold maxLen; omega
              have hc4 : Hid ((k + 1) * 40 ≤ 140737488355328) := by show _ ≤ _; omega
              have hc5 : Hid (k + 1 + 0 ≤ maxLen) := by show _ ≤ _; unfold maxLen; omega
              have hc6 : Hid ((k + 1 + 0) * 40 ≤ 140737488355328) := by show _ ≤ _; omega
              have HW : Hid (Lies (wq.alloc (.cells #[] 32)) b off (L.take k)) := (HL.out.take k).grow HbW.out (HBq.out.alloc HBq.out.size _)
              clear q0 q1 q2 q3 p0
              go_wp2_with (first
                | (at_builtin
                   refine wpList_append_own _ rfl _ _ 24 rfl W.heap.size 32 i0 (.agg #[.int .i64 0, .int .i64 0, .int .i64 0, .string ⟨#[]⟩]) 4 40 Try.underlying24 hi hz0 hz1 hz2 rfl (by decide) _ 0 [] rfl (World.ownsRow_made wq #[] 0 HBq.out.size (by decide) rfl) ⟨b, off, none⟩ k (k + 1) (cellsL (L.take k)) rfl (by rw [cellsL_len, HKL.out]) HW.out.news (oneL _) hc1.out hc2.out (by have := HBq.out.size; simp; omega) ?_
                   intro v' w3 hown hgrow hnil
                   obtain ⟨g, gc, rfl, hf⟩ := own_form hown (L := L.take k) (by rw [HKL.out, Nat.zero_add]) (List.nil_append _) (fun e => by have := (hnil.1 e).1; cases this)
                   have hB3 : Below W.heap.size W w3 := (HBq.out.alloc HBq.out.size _).grown hgrow (by have := HBq.out.size; simp; omega) (fun x hx => by have hx' : some wq.heap.size = some x := hx; cases hx'; exact HBq.out.size)
                   rw [HKL.out]
                   have HO3 : Hid (w3.ownsRow W.heap.size 32 4 (.slice (some ⟨g, 0, none⟩) k gc) k (cellsL (L.take k))) := own_form2 hf HKL.out
                   have HB3 : Hid (Below W.heap.size W w3) := hB3
                   obtain ⟨e0, e1, e2, e3⟩ := HE.out w3 hB3
                   obtain ⟨f0, f1, f2, f3⟩ := HQ.out w3 hB3
                   clear hown hgrow hnil hf hB3))
              have hne3 := Later.any w3
              have u0 : ∀ s : Later w3, s.val.cell? ⟨w.heap.size, 0, none⟩ = some (.int .i64 x.a) := fun s => s.cell e0
              have v0 : ∀ s : Later w3, s.val.cell? ⟨b, off + k * 4, none⟩ = some (.int .i64 y.a) := fun s => s.cell f0
              have u1 : ∀ s : Later w3, s.val.cell? ⟨w.heap.size, 1, none⟩ = some (.int .i64 x.b) := fun s => s.cell e1
              have v1 : ∀ s : Later w3, s.val.cell? ⟨b, off + k * 4 + 1, none⟩ = some (.int .i64 y.b) := fun s => s.cell f1
              have u2 : ∀ s : Later w3, s.val.cell? ⟨w.heap.size, 2, none⟩ = some (.int .i64 x.c) := fun s => s.cell e2
              have v2 : ∀ s : Later w3, s.val.cell? ⟨b, off + k * 4 + 2, none⟩ = some (.int .i64 y.c) := fun s => s.cell f2
              have u3 : ∀ s : Later w3, s.val.cell? ⟨w.heap.size, 3, none⟩ = some (.string x.d) := fun s => s.cell e3
              have v3 : ∀ s : Later w3, s.val.cell? ⟨b, off + k * 4 + 3, none⟩ = some (.string y.d) := fun s => s.cell f3
              clear e0 e1 e2 e3 f0 f1 f2 f3
              refine wp_region_later (by kernel_rfl) (by kernel_rfl) ?_
              repeat (go_big_quiet_step (fail))
              refine wpQuiet_nil ?_
              rintro w3' ⟨s, hs⟩
              have hB3 : Below w3.heap.size w3 w3' := by rw [hs]; exact s.ok
              clear hs s u0 u1 u2 u3 v0 v1 v2 v3 hne3
              have HO3' : Hid (w3'.ownsRow W.heap.size 32 4 (.slice (some ⟨g, 0, none⟩) k gc) k (cellsL (L.take k))) := ownsRow_below HO3.out hB3
              have HB3' : Hid (Below W.heap.size W w3') := HB3.out.trans (hB3.mono HB3.out.size)
              clear hB3 HO3 HB3
              obtain ⟨e0, e1, e2, e3⟩ := HE.out w3' HB3'.out
              obtain ⟨f0, f1, f2, f3⟩ := HQ.out w3' HB3'.out
              go_wp2
              have hne3 := Later.any w3'
              have u0 : ∀ s : Later w3', s.val.cell? ⟨w.heap.size, 0, none⟩ = some (.int .i64 x.a) := fun s => s.cell e0
              have v0 : ∀ s : Later w3', s.val.cell? ⟨b, off + k * 4, none⟩ = some (.int .i64 y.a) := fun s => s.cell f0
              have u1 : ∀ s : Later w3', s.val.cell? ⟨w.heap.size, 1, none⟩ = some (.int .i64 x.b) := fun s => s.cell e1
              have v1 : ∀ s : Later w3', s.val.cell? ⟨b, off + k * 4 + 1, none⟩ = some (.int .i64 y.b) := fun s => s.cell f1
              have u2 : ∀ s : Later w3', s.val.cell? ⟨w.heap.size, 2, none⟩ = some (.int .i64 x.c) := fun s => s.cell e2
              have v2 : ∀ s : Later w3', s.val.cell? ⟨b, off + k * 4 + 2, none⟩ = some (.int .i64 y.c) := fun s => s.cell f2
              have u3 : ∀ s : Later w3', s.val.cell? ⟨w.heap.size, 3, none⟩ = some (.string x.d) := fun s => s.cell e3
              have v3 : ∀ s : Later w3', s.val.cell? ⟨b, off + k * 4 + 3, none⟩ = some (.string y.d) := fun s => s.cell f3
              clear e0 e1 e2 e3 f0 f1 f2 f3
              refine wp_region_later (by kernel_rfl) (by kernel_rfl) ?_
              repeat (go_big_quiet_step ((rename_i t; with_reducible exact later_later hlq t)))
              refine wpQuiet_nil ?_
              rintro w3b ⟨s, hs⟩
              have hB3 : Below w3'.heap.size w3' w3b := by rw [hs]; exact s.ok
              clear hs s u0 u1 u2 u3 v0 v1 v2 v3 hne3
              have HO3b : Hid (w3b.ownsRow W.heap.size 32 4 (.slice (some ⟨g, 0, none⟩) k gc) k (cellsL (L.take k))) := ownsRow_below HO3'.out hB3
              have HB3b : Hid (Below W.heap.size W w3b) := HB3'.out.trans (hB3.mono HB3'.out.size)
              clear hB3 HO3' HB3'
              obtain ⟨e0, e1, e2, e3⟩ := HE.out w3b HB3b.out
              obtain ⟨f0, f1, f2, f3⟩ := HQ.out w3b HB3b.out
              go_wp2_with (first
                | (at_builtin
                   refine wpList_append_own _ rfl _ _ 24 rfl W.heap.size 32 i0 (.agg #[.int .i64 0, .int .i64 0, .int .i64 0, .string ⟨#[]⟩]) 4 40 Try.underlying24 hi hz0 hz1 hz2 rfl (by decide) _ k _ rfl (HO3b.out.alloc _) ⟨w3b.heap.size, 0, none⟩ 1 1 (enc4 y) rfl rfl (World.news_of_block (heap_alloc_new _ _)) (by rw [← cellsL_one]; exact oneL _) hc3.out hc4.out (by have := HB3b.out.size; simp; omega) ?_
                   intro v4 w4 hown4 hgrow4 hnil4
                   have hB4 : Below W.heap.size W w4 := (HB3b.out.alloc HB3b.out.size _).grown hgrow4 (by have := HB3b.out.size; simp; omega) (fun x hx => by have := (HO3b.out.lt x hx).1; exact this)
                   obtain ⟨g4, gc4, rfl, hf4⟩ := own_form hown4 (L := L.take k ++ [y]) (by rw [List.length_append, HKL.out]; rfl) (by rw [cellsL_append, cellsL_one]) (fun e => by have := (hnil4.1 e).1; cases this)
                   have hl4 : (L.take k ++ [y]).length = k + 1 := by rw [List.length_append, HKL.out]; rfl
                   rw [hl4]
                   have HO4 : Hid (w4.ownsRow W.heap.size 32 4 (.slice (some ⟨g4, 0, none⟩) (k + 1) gc4) (k + 1) (cellsL (L.take k ++ [y]))) := own_form2 hf4 hl4
                   have HB4 : Hid (Below W.heap.size W w4) := hB4
                   clear hown4 hgrow4 hnil4 hf4 hB4 hl4 e0 e1 e2 e3 f0 f1 f2 f3)
                | (at_builtin
                   first | refine wpList_append_own _ rfl _ _ 24 rfl W.heap.size 32 i0 (.agg #[.int .i64 0, .int .i64 0, .int .i64 0, .string ⟨#[]⟩]) 4 40 Try.underlying24 hi hz0 hz1 hz2 rfl (by decide) _ (k + 1) _ rfl HO4.out ⟨b, off, none⟩ 0 _ [] rfl rfl (fun j u hu => by simp at hu) (fun u hu => by simp at hu) hc5.out hc6.out HB4.out.size ?_ | refine wpList_append_own _ rfl _ _ 24 rfl W.heap.size 32 i0 (.agg #[.int .i64 0, .int .i64 0, .int .i64 0, .string ⟨#[]⟩]) 4 40 Try.underlying24 hi hz0 hz1 hz2 rfl (by decide) _ (k + 1) _ rfl HO4.out ⟨b, off + (k + 1) * 4, none⟩ 0 _ [] rfl rfl (fun j u hu => by simp at hu) (fun u hu => by simp at hu) hc5.out hc6.out HB4.out.size ?_
                   intro v5 w5 hown5 hgrow5 hnil5
                   have hB5 : Below W.heap.size W w5 := HB4.out.grown hgrow5 HB4.out.size (fun x hx => by have := (HO4.out.lt x hx).1; exact this)
                   obtain ⟨g5, gc5, rfl, hf5⟩ := own_form hown5 (L := putB L x) (by rw [HP.out, List.length_append, HKL.out]; rfl) (by rw [HP.out, List.append_nil]) (fun e => by have := (hnil5.1 e).1; cases this)
                   have HF : Hid (OwnE w5 w.heap.size g5 gc5 (putB L x) ∧ Below w.heap.size w w5) := ⟨hf5.base (by have := HBW.out.size; omega), HBW.out.trans (hB5.mono HBW.out.size)⟩
                   clear hown5 hgrow5 hnil5 hf5 hB5))
              go_wp2
              go_ret
              exact ⟨g5, gc5, rfl, HF.out.1, HF.out.2⟩
          · have hcap' : k + 1 < cap := by omega
            clear hcap
            cases hlq : later x y with
            | true =>
              have HP : Hid (putB L x = L.take k ++ [x] ++ L.drop (k + 1)) := by
                show _ = _
                rw [hat]; unfold pick; rw [hlq]; rfl
              clear hat
              go_wp2
              refine wp_region_later (by kernel_rfl) (by kernel_rfl) ?_
              repeat (go_big_quiet_step (fail))
              refine wpQuiet_nil ?_
              rintro wq ⟨s, hs⟩
              have hBq0 : Below wr.heap.size wr wq := by rw [hs]; exact s.ok
              clear hs s
              have HBq : Hid (Below W.heap.size W wq) := HB.out.trans (hBq0.mono HB.out.size)
              clear hBq0
              have hc1 : Hid (0 + k ≤ maxLen) := by show _ ≤ _; unfold maxLen; omega
              have hc2 : Hid ((0 + k) * 40 ≤ 140737488355328) := by show _ ≤ _; omega
              have hc3 : Hid (k + 1 ≤ maxLen) := by show _ ≤ _; unfold maxLen; omega
              have hc4 : Hid ((k + 1) * 40 ≤ 140737488355328) := by show _ ≤ _; omega
              have hc5 : Hid (k + 1 + (n - (k + 1)) ≤ maxLen) := by show _ ≤ _; unfold maxLen; omega
              have hc6 : Hid ((k + 1 + (n - (k + 1))) * 40 ≤ 140737488355328) := by show _ ≤ _; omega
              have HW : Hid (Lies (wq.alloc (.cells #[] 32)) b off (L.take k)) := (HL.out.take k).grow HbW.out (HBq.out.alloc HBq.out.size _)
              clear q0 q1 q2 q3 p0
              go_wp2_with (first
                | (at_builtin
                   refine wpList_append_own _ rfl _ _ 24 rfl W.heap.size 32 i0 (.agg #[.int .i64 0, .int .i64 0, .int .i64 0, .string ⟨#[]⟩]) 4 40 Try.underlying24 hi hz0 hz1 hz2 rfl (by decide) _ 0 [] rfl (World.ownsRow_made wq #[] 0 HBq.out.size (by decide) rfl) ⟨b, off, none⟩ k cap (cellsL (L.take k)) rfl (by rw [cellsL_len, HKL.out]) HW.out.news (oneL _) hc1.out hc2.out (by have := HBq.out.size; simp; omega) ?_
                   intro v' w3 hown hgrow hnil
                   obtain ⟨g, gc, rfl, hf⟩ := own_form hown (L := L.take k) (by rw [HKL.out, Nat.zero_add]) (List.nil_append _) (fun e => by have := (hnil.1 e).1; cases this)
                   have hB3 : Below W.heap.size W w3 := (HBq.out.alloc HBq.out.size _).grown hgrow (by have := HBq.out.size; simp; omega) (fun x hx => by have hx' : some wq.heap.size = some x := hx; cases hx'; exact HBq.out.size)
                   rw [HKL.out]
                   have HO3 : Hid (w3.ownsRow W.heap.size 32 4 (.slice (some ⟨g, 0, none⟩) k gc) k (cellsL (L.take k))) := own_form2 hf HKL.out
                   have HB3 : Hid (Below W.heap.size W w3) := hB3
                   obtain ⟨e0, e1, e2, e3⟩ := HE.out w3 hB3
                   obtain ⟨f0, f1, f2, f3⟩ := HQ.out w3 hB3
                   clear hown hgrow hnil hf hB3))
              have hne3 := Later.any w3
              have u0 : ∀ s : Later w3, s.val.cell? ⟨w.heap.size, 0, none⟩ = some (.int .i64 x.a) := fun s => s.cell e0
              have v0 : ∀ s : Later w3, s.val.cell? ⟨b, off + k * 4, none⟩ = some (.int .i64 y.a) := fun s => s.cell f0
              have u1 : ∀ s : Later w3, s.val.cell? ⟨w.heap.size, 1, none⟩ = some (.int .i64 x.b) := fun s => s.cell e1
              have v1 : ∀ s : Later w3, s.val.cell? ⟨b, off + k * 4 + 1, none⟩ = some (.int .i64 y.b) := fun s => s.cell f1
              have u2 : ∀ s : Later w3, s.val.cell? ⟨w.heap.size, 2, none⟩ = some (.int .i64 x.c) := fun s => s.cell e2
              have v2 : ∀ s : Later w3, s.val.cell? ⟨b, off + k * 4 + 2, none⟩ = some (.int .i64 y.c) := fun s => s.cell f2
              have u3 : ∀ s : Later w3, s.val.cell? ⟨w.heap.size, 3, none⟩ = some (.string x.d) := fun s => s.cell e3
              have v3 : ∀ s : Later w3, s.val.cell? ⟨b, off + k * 4 + 3, none⟩ = some (.string y.d) := fun s => s.cell f3
              clear e0 e1 e2 e3 f0 f1 f2 f3
              refine wp_region_later (by kernel_rfl) (by kernel_rfl) ?_
              repeat (go_big_quiet_step (fail))
              refine wpQuiet_nil ?_
              rintro w3' ⟨s, hs⟩
              have hB3 : Below w3.heap.size w3 w3' := by rw [hs]; exact s.ok
              clear hs s u0 u1 u2 u3 v0 v1 v2 v3 hne3
              have HO3' : Hid (w3'.ownsRow W.heap.size 32 4 (.slice (some ⟨g, 0, none⟩) k gc) k (cellsL (L.take k))) := ownsRow_below HO3.out hB3
              have HB3' : Hid (Below W.heap.size W w3') := HB3.out.trans (hB3.mono HB3.out.size)
              clear hB3 HO3 HB3
              obtain ⟨e0, e1, e2, e3⟩ := HE.out w3' HB3'.out
              obtain ⟨f0, f1, f2, f3⟩ := HQ.out w3' HB3'.out
              go_wp2
              have hne3 := Later.any w3'
              have u0 : ∀ s : Later w3', s.val.cell? ⟨w.heap.size, 0, none⟩ = some (.int .i64 x.a) := fun s => s.cell e0
              have v0 : ∀ s : Later w3', s.val.cell? ⟨b, off + k * 4, none⟩ = some (.int .i64 y.a) := fun s => s.cell f0
              have u1 : ∀ s : Later w3', s.val.cell? ⟨w.heap.size, 1, none⟩ = some (.int .i64 x.b) := fun s => s.cell e1
              have v1 : ∀ s : Later w3', s.val.cell? ⟨b, off + k * 4 + 1, none⟩ = some (.int .i64 y.b) := fun s => s.cell f1
              have u2 : ∀ s : Later w3', s.val.cell? ⟨w.heap.size, 2, none⟩ = some (.int .i64 x.c) := fun s => s.cell e2
              have v2 : ∀ s : Later w3', s.val.cell? ⟨b, off + k * 4 + 2, none⟩ = some (.int .i64 y.c) := fun s => s.cell f2
              have u3 : ∀ s : Later w3', s.val.cell? ⟨w.heap.size, 3, none⟩ = some (.string x.d) := fun s => s.cell e3
              have v3 : ∀ s : Later w3', s.val.cell? ⟨b, off + k * 4 + 3, none⟩ = some (.string y.d) := fun s => s.cell f3
              clear e0 e1 e2 e3 f0 f1 f2 f3
              refine wp_region_later (by kernel_rfl) (by kernel_rfl) ?_
              repeat (go_big_quiet_step ((rename_i t; with_reducible exact later_later hlq t)))
              refine wpQuiet_nil ?_
              rintro w3b ⟨s, hs⟩
              have hB3 : Below w3'.heap.size w3' w3b := by rw [hs]; exact s.ok
              clear hs s u0 u1 u2 u3 v0 v1 v2 v3 hne3
              have HO3b : Hid (w3b.ownsRow W.heap.size 32 4 (.slice (some ⟨g, 0, none⟩) k gc) k (cellsL (L.take k))) := ownsRow_below HO3'.out hB3
              have HB3b : Hid (Below W.heap.size W w3b) := HB3'.out.trans (hB3.mono HB3'.out.size)
              clear hB3 HO3' HB3'
              obtain ⟨e0, e1, e2, e3⟩ := HE.out w3b HB3b.out
              obtain ⟨f0, f1, f2, f3⟩ := HQ.out w3b HB3b.out
              go_wp2_with (first
                | (at_builtin
                   refine wpList_append_own _ rfl _ _ 24 rfl W.heap.size 32 i0 (.agg #[.int .i64 0, .int .i64 0, .int .i64 0, .string ⟨#[]⟩]) 4 40 Try.underlying24 hi hz0 hz1 hz2 rfl (by decide) _ k _ rfl (HO3b.out.alloc _) ⟨w3b.heap.size, 0, none⟩ 1 1 (enc4 x) rfl rfl (World.news_of_block (heap_alloc_new _ _)) (by rw [← cellsL_one]; exact oneL _) hc3.out hc4.out (by have := HB3b.out.size; simp; omega) ?_
                   intro v4 w4 hown4 hgrow4 hnil4
                   have hB4 : Below W.heap.size W w4 := (HB3b.out.alloc HB3b.out.size _).grown hgrow4 (by have := HB3b.out.size; simp; omega) (fun x hx => by have := (HO3b.out.lt x hx).1; exact this)
                   obtain ⟨g4, gc4, rfl, hf4⟩ := own_form hown4 (L := L.take k ++ [x]) (by rw [List.length_append, HKL.out]; rfl) (by rw [cellsL_append, cellsL_one]) (fun e => by have := (hnil4.1 e).1; cases this)
                   have hl4 : (L.take k ++ [x]).length = k + 1 := by rw [List.length_append, HKL.out]; rfl
                   rw [hl4]
                   have HO4 : Hid (w4.ownsRow W.heap.size 32 4 (.slice (some ⟨g4, 0, none⟩) (k + 1) gc4) (k + 1) (cellsL (L.take k ++ [x]))) := own_form2 hf4 hl4
                   have HB4 : Hid (Below W.heap.size W w4) := hB4
                   clear hown4 hgrow4 hnil4 hf4 hB4 hl4 e0 e1 e2 e3 f0 f1 f2 f3)
                | (at_builtin
                   refine wpList_append_own _ rfl _ _ 24 rfl W.heap.size 32 i0 (.agg #[.int .i64 0, .int .i64 0, .int .i64 0, .string ⟨#[]⟩]) 4 40 Try.underlying24 hi hz0 hz1 hz2 rfl (by decide) _ (k + 1) _ rfl HO4.out ⟨b, off + (k + 1) * 4, none⟩ (n - (k + 1)) (cap - (k + 1)) (cellsL (L.drop (k + 1))) rfl (by rw [cellsL_len, HDL.out]) (Lies.news ((HL.out.drop (k + 1)).grow HbW.out HB4.out)) (oneL _) hc5.out hc6.out HB4.out.size ?_
                   intro v5 w5 hown5 hgrow5 hnil5
                   have hB5 : Below W.heap.size W w5 := HB4.out.grown hgrow5 HB4.out.size (fun x hx => by have := (HO4.out.lt x hx).1; exact this)
                   obtain ⟨g5, gc5, rfl, hf5⟩ := own_form hown5 (L := putB L x) (by rw [HP.out, List.length_append, List.length_append, HKL.out, HDL.out]; rfl) (by rw [HP.out, cellsL_append (L.take k ++ [x])]) (fun e => by have := (hnil5.1 e).1; cases this)
                   have HF : Hid (OwnE w5 w.heap.size g5 gc5 (putB L x) ∧ Below w.heap.size w w5) := ⟨hf5.base (by have := HBW.out.size; omega), HBW.out.trans (hB5.mono HBW.out.size)⟩
                   clear hown5 hgrow5 hnil5 hf5 hB5))
              go_wp2
              go_ret
              exact ⟨g5, gc5, rfl, HF.out.1, HF.out.2⟩
            | false =>
              have HP : Hid (putB L x = L.take k ++ [y] ++ L.drop (k + 1)) := by
                show _ = _
                rw [hat]; unfold pick; rw [hlq]; rfl
              clear hat
              go_wp2
              refine wp_region_later (by kernel_rfl) (by kernel_rfl) ?_
              repeat (go_big_quiet_step (fail))
              refine wpQuiet_nil ?_
              rintro wq ⟨s, hs⟩
              have hBq0 : Below wr.heap.size wr wq := by rw [hs]; exact s.ok
              clear hs s
              have HBq : Hid (Below W.heap.size W wq) := HB.out.trans (hBq0.mono HB.out.size)
              clear hBq0
              have hc1 : Hid (0 + k ≤ maxLen) := by show _ ≤ _; unfold maxLen; omega
              have hc2 : Hid ((0 + k) * 40 ≤ 140737488355328) := by show _ ≤ _; omega
              have hc3 : Hid (k + 1 ≤ maxLen) := by show _ ≤ _; unfold maxLen; omega
              have hc4 : Hid ((k + 1) * 40 ≤ 140737488355328) := by show _ ≤ _; omega
              have hc5 : Hid (k + 1 + (n - (k + 1)) ≤ maxLen) := by show _ ≤ _; unfold maxLen; omega
              have hc6 : Hid ((k + 1 + (n - (k + 1))) * 40 ≤ 140737488355328) := by show _ ≤ _; omega
              have HW : Hid (Lies (wq.alloc (.cells #[] 32)) b off (L.take k)) := (HL.out.take k).grow HbW.out (HBq.out.alloc HBq.out.size _)
              clear q0 q1 q2 q3 p0
              go_wp2_with (first
                | (at_builtin
                   refine wpList_append_own _ rfl _ _ 24 rfl W.heap.size 32 i0 (.agg #[.int .i64 0, .int .i64 0, .int .i64 0, .string ⟨#[]⟩]) 4 40 Try.underlying24 hi hz0 hz1 hz2 rfl (by decide) _ 0 [] rfl (World.ownsRow_made wq #[] 0 HBq.out.size (by decide) rfl) ⟨b, off, none⟩ k cap (cellsL (L.take k)) rfl (by rw [cellsL_len, HKL.out]) HW.out.news (oneL _) hc1.out hc2.out (by have := HBq.out.size; simp; omega) ?_
                   intro v' w3 hown hgrow hnil
                   obtain ⟨g, gc, rfl, hf⟩ := own_form hown (L := L.take k) (by rw [HKL.out, Nat.zero_add]) (List.nil_append _) (fun e => by have := (hnil.1 e).1; cases this)
                   have hB3 : Below W.heap.size W w3 := (HBq.out.alloc HBq.out.size _).grown hgrow (by have := HBq.out.size; simp; omega) (fun x hx => by have hx' : some wq.heap.size = some x := hx; cases hx'; exact HBq.out.size)
                   rw [HKL.out]
                   have HO3 : Hid (w3.ownsRow W.heap.size 32 4 (.slice (some ⟨g, 0, none⟩) k gc) k (cellsL (L.take k))) := own_form2 hf HKL.out
                   have HB3 : Hid (Below W.heap.size W w3) := hB3
                   obtain ⟨e0, e1, e2, e3⟩ := HE.out w3 hB3
                   obtain ⟨f0, f1, f2, f3⟩ := HQ.out w3 hB3
                   clear hown hgrow hnil hf hB3))
              have hne3 := Later.any w3
              have u0 : ∀ s : Later w3, s.val.cell? ⟨w.heap.size, 0, none⟩ = some (.int .i64 x.a) := fun s => s.cell e0
              have v0 : ∀ s : Later w3, s.val.cell? ⟨b, off + k * 4, none⟩ = some (.int .i64 y.a) := fun s => s.cell f0
              have u1 : ∀ s : Later w3, s.val.cell? ⟨w.heap.size, 1, none⟩ = some (.int .i64 x.b) := fun s => s.cell e1
              have v1 : ∀ s : Later w3, s.val.cell? ⟨b, off + k * 4 + 1, none⟩ = some (.int .i64 y.b) := fun s => s.cell f1
              have u2 : ∀ s : Later w3, s.val.cell? ⟨w.heap.size, 2, none⟩ = some (.int .i64 x.c) := fun s => s.cell e2
              have v2 : ∀ s : Later w3, s.val.cell? ⟨b, off + k * 4 + 2, none⟩ = some (.int .i64 y.c) := fun s => s.cell f2
              have u3 : ∀ s : Later w3, s.val.cell? ⟨w.heap.size, 3, none⟩ = some (.string x.d) := fun s => s.cell e3
              have v3 : ∀ s : Later w3, s.val.cell? ⟨b, off + k * 4 + 3, none⟩ = some (.string y.d) := fun s => s.cell f3
              clear e0 e1 e2 e3 f0 f1 f2 f3
              refine wp_region_later (by kernel_rfl) (by kernel_rfl) ?_
              repeat (go_big_quiet_step (fail))
              refine wpQuiet_nil ?_
              rintro w3' ⟨s, hs⟩
              have hB3 : Below w3.heap.size w3 w3' := by rw [hs]; exact s.ok
              clear hs s u0 u1 u2 u3 v0 v1 v2 v3 hne3
              have HO3' : Hid (w3'.ownsRow W.heap.size 32 4 (.slice (some ⟨g, 0, none⟩) k gc) k (cellsL (L.take k))) := ownsRow_below HO3.out hB3
              have HB3' : Hid (Below W.heap.size W w3') := HB3.out.trans (hB3.mono HB3.out.size)
              clear hB3 HO3 HB3
              obtain ⟨e0, e1, e2, e3⟩ := HE.out w3' HB3'.out
              obtain ⟨f0, f1, f2, f3⟩ := HQ.out w3' HB3'.out
              go_wp2
              have hne3 := Later.any w3'
              have u0 : ∀ s : Later w3', s.val.cell? ⟨w.heap.size, 0, none⟩ = some (.int .i64 x.a) := fun s => s.cell e0
              have v0 : ∀ s : Later w3', s.val.cell? ⟨b, off + k * 4, none⟩ = some (.int .i64 y.a) := fun s => s.cell f0
              have u1 : ∀ s : Later w3', s.val.cell? ⟨w.heap.size, 1, none⟩ = some (.int .i64 x.b) := fun s => s.cell e1
              have v1 : ∀ s : Later w3', s.val.cell? ⟨b, off + k * 4 + 1, none⟩ = some (.int .i64 y.b) := fun s => s.cell f1
              have u2 : ∀ s : Later w3', s.val.cell? ⟨w.heap.size, 2, none⟩ = some (.int .i64 x.c) := fun s => s.cell e2
              have v2 : ∀ s : Later w3', s.val.cell? ⟨b, off + k * 4 + 2, none⟩ = some (.int .i64 y.c) := fun s => s.cell f2
              have u3 : ∀ s : Later w3', s.val.cell? ⟨w.heap.size, 3, none⟩ = some (.string x.d) := fun s => s.cell e3
              have v3 : ∀ s : Later w3', s.val.cell? ⟨b, off + k * 4 + 3, none⟩ = some (.string y.d) := fun s => s.cell f3
              clear e0 e1 e2 e3 f0 f1 f2 f3
              refine wp_region_later (by kernel_rfl) (by kernel_rfl) ?_
              repeat (go_big_quiet_step ((rename_i t; with_reducible exact later_later hlq t)))
              refine wpQuiet_nil ?_
              rintro w3b ⟨s, hs⟩
              have hB3 : Below w3'.heap.size w3' w3b := by rw [hs]; exact s.ok
              clear hs s u0 u1 u2 u3 v0 v1 v2 v3 hne3
              have HO3b : Hid (w3b.ownsRow W.heap.size 32 4 (.slice (some ⟨g, 0, none⟩) k gc) k (cellsL (L.take k))) := ownsRow_below HO3'.out hB3
              have HB3b : Hid (Below W.heap.size W w3b) := HB3'.out.trans (hB3.mono HB3'.out.size)
              clear hB3 HO3' HB3'
              obtain ⟨e0, e1, e2, e3⟩ := HE.out w3b HB3b.out
              obtain ⟨f0, f1, f2, f3⟩ := HQ.out w3b HB3b.out
              go_wp2_with (first
                | (at_builtin
                   refine wpList_append_own _ rfl _ _ 24 rfl W.heap.size 32 i0 (.agg #[.int .i64 0, .int .i64 0, .int .i64 0, .string ⟨#[]⟩]) 4 40 Try.underlying24 hi hz0 hz1 hz2 rfl (by decide) _ k _ rfl (HO3b.out.alloc _) ⟨w3b.heap.size, 0, none⟩ 1 1 (enc4 y) rfl rfl (World.news_of_block (heap_alloc_new _ _)) (by rw [← cellsL_one]; exact oneL _) hc3.out hc4.out (by have := HB3b.out.size; simp; omega) ?_
                   intro v4 w4 hown4 hgrow4 hnil4
                   have hB4 : Below W.heap.size W w4 := (HB3b.out.alloc HB3b.out.size _).grown hgrow4 (by have := HB3b.out.size; simp; omega) (fun x hx => by have := (HO3b.out.lt x hx).1; exact this)
                   obtain ⟨g4, gc4, rfl, hf4⟩ := own_form hown4 (L := L.take k ++ [y]) (by rw [List.length_append, HKL.out]; rfl) (by rw [cellsL_append, cellsL_one]) (fun e => by have := (hnil4.1 e).1; cases this)
                   have hl4 : (L.take k ++ [y]).length = k + 1 := by rw [List.length_append, HKL.out]; rfl
                   rw [hl4]
                   have HO4 : Hid (w4.ownsRow W.heap.size 32 4 (.slice (some ⟨g4, 0, none⟩) (k + 1) gc4) (k + 1) (cellsL (L.take k ++ [y]))) := own_form2 hf4 hl4
                   have HB4 : Hid (Below W.heap.size W w4) := hB4
                   clear hown4 hgrow4 hnil4 hf4 hB4 hl4 e0 e1 e2 e3 f0 f1 f2 f3)
                | (at_builtin
                   refine wpList_append_own _ rfl _ _ 24 rfl W.heap.size 32 i0 (.agg #[.int .i64 0, .int .i64 0, .int .i64 0, .string ⟨#[]⟩]) 4 40 Try.underlying24 hi hz0 hz1 hz2 rfl (by decide) _ (k + 1) _ rfl HO4.out ⟨b, off + (k + 1) * 4, none⟩ (n - (k + 1)) (cap - (k + 1)) (cellsL (L.drop (k + 1))) rfl (by rw [cellsL_len, HDL.out]) (Lies.news ((HL.out.drop (k + 1)).grow HbW.out HB4.out)) (oneL _) hc5.out hc6.out HB4.out.size ?_
                   intro v5 w5 hown5 hgrow5 hnil5
                   have hB5 : Below W.heap.size W w5 := HB4.out.grown hgrow5 HB4.out.size (fun x hx => by have := (HO4.out.lt x hx).1; exact this)
                   obtain ⟨g5, gc5, rfl, hf5⟩ := own_form hown5 (L := putB L x) (by rw [HP.out, List.length_append, List.length_append, HKL.out, HDL.out]; rfl) (by rw [HP.out, cellsL_append (L.take k ++ [y])]) (fun e => by have := (hnil5.1 e).1; cases this)
                   have HF : Hid (OwnE w5 w.heap.size g5 gc5 (putB L x) ∧ Below w.heap.size w w5) := ⟨hf5.base (by have := HBW.out.size; omega), HBW.out.trans (hB5.mono HBW.out.size)⟩
                   clear hown5 hgrow5 hnil5 hf5 hB5))
              go_wp2
              go_ret
              exact ⟨g5, gc5, rfl, HF.out.1, HF.out.2⟩
        · have HP : Hid (putB L x = L.take k ++ [x] ++ L.drop k) := by
            show _ = _
            rw [hat, if_neg (fun h => by have h2 := h.2; rw [← HY.out] at h2; exact he h2)]
          have HDL : Hid ((L.drop k).length = n - k) := by show _ = _; rw [List.length_drop]; omega
          have heb : (y.a == x.a) = false := by simpa using he
          clear hat hkl hn hq he
          go_wp2
          refine wp_region_later (by kernel_rfl) (by kernel_rfl) ?_
          repeat (go_big_quiet_step (fail))
          refine wpQuiet_nil ?_
          rintro wq ⟨s, hs⟩
          have hBq0 : Below wr.heap.size wr wq := by rw [hs]; exact s.ok
          clear hs s
          have HBq : Hid (Below W.heap.size W wq) := HB.out.trans (hBq0.mono HB.out.size)
          clear hBq0
          have hc1 : Hid (0 + k ≤ maxLen) := by show _ ≤ _; unfold maxLen; omega
          have hc2 : Hid ((0 + k) * 40 ≤ 140737488355328) := by show _ ≤ _; omega
          have hc3 : Hid (k + 1 ≤ maxLen) := by show _ ≤ _; unfold maxLen; omega
          have hc4 : Hid ((k + 1) * 40 ≤ 140737488355328) := by show _ ≤ _; omega
          have hc5 : Hid (k + 1 + (n - k) ≤ maxLen) := by show _ ≤ _; unfold maxLen; omega
          have hc6 : Hid ((k + 1 + (n - k)) * 40 ≤ 140737488355328) := by show _ ≤ _; omega
          have HW : Hid (Lies (wq.alloc (.cells #[] 32)) b off (L.take k)) := (HL.out.take k).grow HbW.out (HBq.out.alloc HBq.out.size _)
          clear q0 q1 q2 q3 p0
          go_wp2_with (first
            | (at_builtin
               refine wpList_append_own _ rfl _ _ 24 rfl W.heap.size 32 i0 (.agg #[.int .i64 0, .int .i64 0, .int .i64 0, .string ⟨#[]⟩]) 4 40 Try.underlying24 hi hz0 hz1 hz2 rfl (by decide) _ 0 [] rfl (World.ownsRow_made wq #[] 0 HBq.out.size (by decide) rfl) ⟨b, off, none⟩ k cap (cellsL (L.take k)) rfl (by rw [cellsL_len, HKL.out]) HW.out.news (oneL _) hc1.out hc2.out (by have := HBq.out.size; simp; omega) ?_
               intro v' w3 hown hgrow hnil
               obtain ⟨g, gc, rfl, hf⟩ := own_form hown (L := L.take k) (by rw [HKL.out, Nat.zero_add]) (List.nil_append _) (fun e => by have := (hnil.1 e).1; cases this)
               have hB3 : Below W.heap.size W w3 := (HBq.out.alloc HBq.out.size _).grown hgrow (by have := HBq.out.size; simp; omega) (fun x hx => by have hx' : some wq.heap.size = some x := hx; cases hx'; exact HBq.out.size)
               rw [HKL.out]
               have HO3 : Hid (w3.ownsRow W.heap.size 32 4 (.slice (some ⟨g, 0, none⟩) k gc) k (cellsL (L.take k))) := own_form2 hf HKL.out
               have HB3 : Hid (Below W.heap.size W w3) := hB3
               obtain ⟨e0, e1, e2, e3⟩ := HE.out w3 hB3
               obtain ⟨f0, f1, f2, f3⟩ := HQ.out w3 hB3
               clear hown hgrow hnil hf hB3))
          have hne3 := Later.any w3
          have u0 : ∀ s : Later w3, s.val.cell? ⟨w.heap.size, 0, none⟩ = some (.int .i64 x.a) := fun s => s.cell e0
          have v0 : ∀ s : Later w3, s.val.cell? ⟨b, off + k * 4, none⟩ = some (.int .i64 y.a) := fun s => s.cell f0
          have u1 : ∀ s : Later w3, s.val.cell? ⟨w.heap.size, 1, none⟩ = some (.int .i64 x.b) := fun s => s.cell e1
          have v1 : ∀ s : Later w3, s.val.cell? ⟨b, off + k * 4 + 1, none⟩ = some (.int .i64 y.b) := fun s => s.cell f1
          have u2 : ∀ s : Later w3, s.val.cell? ⟨w.heap.size, 2, none⟩ = some (.int .i64 x.c) := fun s => s.cell e2
          have v2 : ∀ s : Later w3, s.val.cell? ⟨b, off + k * 4 + 2, none⟩ = some (.int .i64 y.c) := fun s => s.cell f2
          have u3 : ∀ s : Later w3, s.val.cell? ⟨w.heap.size, 3, none⟩ = some (.string x.d) := fun s => s.cell e3
          have v3 : ∀ s : Later w3, s.val.cell? ⟨b, off + k * 4 + 3, none⟩ = some (.string y.d) := fun s => s.cell f3
          clear e0 e1 e2 e3 f0 f1 f2 f3
          refine wp_region_later (by kernel_rfl) (by kernel_rfl) ?_
          repeat (go_big_quiet_step (fail))
          refine wpQuiet_nil ?_
          rintro w3' ⟨s, hs⟩
          have hB3 : Below w3.heap.size w3 w3' := by rw [hs]; exact s.ok
          clear hs s u0 u1 u2 u3 v0 v1 v2 v3 hne3
          have HO3' : Hid (w3'.ownsRow W.heap.size 32 4 (.slice (some ⟨g, 0, none⟩) k gc) k (cellsL (L.take k))) := ownsRow_below HO3.out hB3
          have HB3' : Hid (Below W.heap.size W w3') := HB3.out.trans (hB3.mono HB3.out.size)
          clear hB3 HO3 HB3
          obtain ⟨e0, e1, e2, e3⟩ := HE.out w3' HB3'.out
          obtain ⟨f0, f1, f2, f3⟩ := HQ.out w3' HB3'.out
          go_wp2_with (first
            | (at_builtin
               refine wpList_append_own _ rfl _ _ 24 rfl W.heap.size 32 i0 (.agg #[.int .i64 0, .int .i64 0, .int .i64 0, .string ⟨#[]⟩]) 4 40 Try.underlying24 hi hz0 hz1 hz2 rfl (by decide) _ k _ rfl (HO3'.out.alloc _) ⟨w3'.heap.size, 0, none⟩ 1 1 (enc4 x) rfl rfl (World.news_of_block (heap_alloc_new _ _)) (by rw [← cellsL_one]; exact oneL _) hc3.out hc4.out (by have := HB3'.out.size; simp; omega) ?_
               intro v4 w4 hown4 hgrow4 hnil4
               have hB4 : Below W.heap.size W w4 := (HB3'.out.alloc HB3'.out.size _).grown hgrow4 (by have := HB3'.out.size; simp; omega) (fun x hx => by have := (HO3'.out.lt x hx).1; exact this)
               obtain ⟨g4, gc4, rfl, hf4⟩ := own_form hown4 (L := L.take k ++ [x]) (by rw [List.length_append, HKL.out]; rfl) (by rw [cellsL_append, cellsL_one]) (fun e => by have := (hnil4.1 e).1; cases this)
               have hl4 : (L.take k ++ [x]).length = k + 1 := by rw [List.length_append, HKL.out]; rfl
               rw [hl4]
               have HO4 : Hid (w4.ownsRow W.heap.size 32 4 (.slice (some ⟨g4, 0, none⟩) (k + 1) gc4) (k + 1) (cellsL (L.take k ++ [x]))) := own_form2 hf4 hl4
               have HB4 : Hid (Below W.heap.size W w4) := hB4
               clear hown4 hgrow4 hnil4 hf4 hB4 hl4 e0 e1 e2 e3 f0 f1 f2 f3)
            | (at_builtin
               refine wpList_append_own _ rfl _ _ 24 rfl W.heap.size 32 i0 (.agg #[.int .i64 0, .int .i64 0, .int .i64 0, .string ⟨#[]⟩]) 4 40 Try.underlying24 hi hz0 hz1 hz2 rfl (by decide) _ (k + 1) _ rfl HO4.out ⟨b, off + k * 4, none⟩ (n - k) (cap - k) (cellsL (L.drop k)) rfl (by rw [cellsL_len, HDL.out]) (Lies.news ((HL.out.drop k).grow HbW.out HB4.out)) (oneL _) hc5.out hc6.out HB4.out.size ?_
               intro v5 w5 hown5 hgrow5 hnil5
               have hB5 : Below W.heap.size W w5 := HB4.out.grown hgrow5 HB4.out.size (fun x hx => by have := (HO4.out.lt x hx).1; exact this)
               obtain ⟨g5, gc5, rfl, hf5⟩ := own_form hown5 (L := putB L x) (by rw [HP.out, List.length_append, List.length_append, HKL.out, HDL.out]; rfl) (by rw [HP.out, cellsL_append (L.take k ++ [x])]) (fun e => by have := (hnil5.1 e).1; cases this)
               have HF : Hid (OwnE w5 w.heap.size g5 gc5 (putB L x) ∧ Below w.heap.size w w5) := ⟨hf5.base (by have := HBW.out.size; omega), HBW.out.trans (hB5.mono HBW.out.size)⟩
               clear hown5 hgrow5 hnil5 hf5 hB5))
          go_wp2
          go_ret
          exact ⟨g5, gc5, rfl, HF.out.1, HF.out.2⟩
    · have hke : k = n := by omega
      subst hke
      have hkd : decide ((k : Int) < (k : Int)) = false := by simp
      have hn := HN.out
      have HP : Hid (putB L x = L.take k ++ [x]) := by
        show _ = _
        rw [putB_at x L k (by omega) HR.out (fun h => by omega), if_neg (fun h => by omega), List.drop_eq_nil_of_le (by omega), List.append_nil]
      have hkl : (L.take k).length = k := by rw [List.length_take]; omega
      have HKL : Hid ((L.take k).length = k) := hkl
      clear hB hkl hn
      go_wp2
      refine wp_region_later (by kernel_rfl) (by kernel_rfl) ?_
      repeat (go_big_quiet_step (fail))
      refine wpQuiet_nil ?_
      rintro wq ⟨s, hs⟩
      have hBq0 : Below wr.heap.size wr wq := by rw [hs]; exact s.ok
      clear hs s
      have HBq : Hid (Below W.heap.size W wq) := HB.out.trans (hBq0.mono HB.out.size)
      clear hBq0
      have hc1 : Hid (0 + k ≤ maxLen) := by show _ ≤ _; unfold maxLen; omega
      have hc2 : Hid ((0 + k) * 40 ≤ 140737488355328) := by show _ ≤ _; omega
      have hc3 : Hid (k + 1 ≤ maxLen) := by show _ ≤ _; unfold maxLen; omega
      have hc4 : Hid ((k + 1) * 40 ≤ 140737488355328) := by show _ ≤ _; omega
      have hc5 : Hid (k + 1 + 0 ≤ maxLen) := by show _ ≤ _; unfold maxLen; omega
      have hc6 : Hid ((k + 1 + 0) * 40 ≤ 140737488355328) := by show _ ≤ _; omega
      have HW : Hid (Lies (wq.alloc (.cells #[] 32)) b off (L.take k)) := (HL.out.take k).grow HbW.out (HBq.out.alloc HBq.out.size _)
      by_cases hcap : cap = k
      · have hkc : k = cap := hcap.symm
        clear hcap
        subst hkc
        go_wp2_with (first
          | (at_builtin
             refine wpList_append_own _ rfl _ _ 24 rfl W.heap.size 32 i0 (.agg #[.int .i64 0, .int .i64 0, .int .i64 0, .string ⟨#[]⟩]) 4 40 Try.underlying24 hi hz0 hz1 hz2 rfl (by decide) _ 0 [] rfl (World.ownsRow_made wq #[] 0 HBq.out.size (by decide) rfl) ⟨b, off, none⟩ k k (cellsL (L.take k)) rfl (by rw [cellsL_len, HKL.out]) HW.out.news (oneL _) hc1.out hc2.out (by have := HBq.out.size; simp; omega) ?_
             intro v' w3 hown hgrow hnil
             obtain ⟨g, gc, rfl, hf⟩ := own_form hown (L := L.take k) (by rw [HKL.out, Nat.zero_add]) (List.nil_append _) (fun e => by have := (hnil.1 e).1; cases this)
             have hB3 : Below W.heap.size W w3 := (HBq.out.alloc HBq.out.size _).grown hgrow (by have := HBq.out.size; simp; omega) (fun x hx => by have hx' : some wq.heap.size = some x := hx; cases hx'; exact HBq.out.size)
             rw [HKL.out]
             have HO3 : Hid (w3.ownsRow W.heap.size 32 4 (.slice (some ⟨g, 0, none⟩) k gc) k (cellsL (L.take k))) := own_form2 hf HKL.out
             have HB3 : Hid (Below W.heap.size W w3) := hB3
             obtain ⟨e0, e1, e2, e3⟩ := HE.out w3 hB3
             clear hown hgrow hnil hf hB3))
        have hne3 := Later.any w3
        have u0 : ∀ s : Later w3, s.val.cell? ⟨w.heap.size, 0, none⟩ = some (.int .i64 x.a) := fun s => s.cell e0
        have u1 : ∀ s : Later w3, s.val.cell? ⟨w.heap.size, 1, none⟩ = some (.int .i64 x.b) := fun s => s.cell e1
        have u2 : ∀ s : Later w3, s.val.cell? ⟨w.heap.size, 2, none⟩ = some (.int .i64 x.c) := fun s => s.cell e2
        have u3 : ∀ s : Later w3, s.val.cell? ⟨w.heap.size, 3, none⟩ = some (.string x.d) := fun s => s.cell e3
        clear e0 e1 e2 e3
        refine wp_region_later (by kernel_rfl) (by kernel_rfl) ?_
        repeat (go_big_quiet_step (fail))
        refine wpQuiet_nil ?_
        rintro w3' ⟨s, hs⟩
        have hB3 : Below w3.heap.size w3 w3' := by rw [hs]; exact s.ok
        clear hs s u0 u1 u2 u3 hne3
        have HO3' : Hid (w3'.ownsRow W.heap.size 32 4 (.slice (some ⟨g, 0, none⟩) k gc) k (cellsL (L.take k))) := ownsRow_below HO3.out hB3
        have HB3' : Hid (Below W.heap.size W w3') := HB3.out.trans (hB3.mono HB3.out.size)
        clear hB3 HO3 HB3
        obtain ⟨e0, e1, e2, e3⟩ := HE.out w3' HB3'.out
        go_wp2_with (first
          | (at_builtin
             refine wpList_append_own _ rfl _ _ 24 rfl W.heap.size 32 i0 (.agg #[.int .i64 0, .int .i64 0, .int .i64 0, .string ⟨#[]⟩]) 4 40 Try.underlying24 hi hz0 hz1 hz2 rfl (by decide) _ k _ rfl (HO3'.out.alloc _) ⟨w3'.heap.size, 0, none⟩ 1 1 (enc4 x) rfl rfl (World.news_of_block (heap_alloc_new _ _)) (by rw [← cellsL_one]; exact oneL _) hc3.out hc4.out (by have := HB3'.out.size; simp; omega) ?_
             intro v4 w4 hown4 hgrow4 hnil4
             have hB4 : Below W.heap.size W w4 := (HB3'.out.alloc HB3'.out.size _).grown hgrow4 (by have := HB3'.out.size; simp; omega) (fun x hx => by have := (HO3'.out.lt x hx).1; exact this)
             obtain ⟨g4, gc4, rfl, hf4⟩ := own_form hown4 (L := L.take k ++ [x]) (by rw [List.length_append, HKL.out]; rfl) (by rw [cellsL_append, cellsL_one]) (fun e => by have := (hnil4.1 e).1; cases this)
             have hl4 : (L.take k ++ [x]).length = k + 1 := by rw [List.length_append, HKL.out]; rfl
             rw [hl4]
             have HO4 : Hid (w4.ownsRow W.heap.size 32 4 (.slice (some ⟨g4, 0, none⟩) (k + 1) gc4) (k + 1) (cellsL (L.take k ++ [x]))) := own_form2 hf4 hl4
             have HB4 : Hid (Below W.heap.size W w4) := hB4
             clear hown4 hgrow4 hnil4 hf4 hB4 hl4 e0 e1 e2 e3)
          | (at_builtin
             first | refine wpList_append_own _ rfl _ _ 24 rfl W.heap.size 32 i0 (.agg #[.int .i64 0, .int .i64 0, .int .i64 0, .string ⟨#[]⟩]) 4 40 Try.underlying24 hi hz0 hz1 hz2 rfl (by decide) _ (k + 1) _ rfl HO4.out ⟨b, off, none⟩ 0 _ [] rfl rfl (fun j u hu => by simp at hu) (fun u hu => by simp at hu) hc5.out hc6.out HB4.out.size ?_ | refine wpList_append_own _ rfl _ _ 24 rfl W.heap.size 32 i0 (.agg #[.int .i64 0, .int .i64 0, .int .i64 0, .string ⟨#[]⟩]) 4 40 Try.underlying24 hi hz0 hz1 hz2 rfl (by decide) _ (k + 1) _ rfl HO4.out ⟨b, off + k * 4, none⟩ 0 _ [] rfl rfl (fun j u hu => by simp at hu) (fun u hu => by simp at hu) hc5.out hc6.out HB4.out.size ?_
             intro v5 w5 hown5 hgrow5 hnil5
             have hB5 : Below W.heap.size W w5 := HB4.out.grown hgrow5 HB4.out.size (fun x hx => by have := (HO4.out.lt x hx).1; exact this)
             obtain ⟨g5, gc5, rfl, hf5⟩ := own_form hown5 (L := putB L x) (by rw [HP.out, List.length_append, HKL.out]; rfl) (by rw [HP.out, List.append_nil]) (fun e => by have := (hnil5.1 e).1; cases this)
             have HF : Hid (OwnE w5 w.heap.size g5 gc5 (putB L x) ∧ Below w.heap.size w w5) := ⟨hf5.base (by have := HBW.out.size; omega), HBW.out.trans (hB5.mono HBW.out.size)⟩
             clear hown5 hgrow5 hnil5 hf5 hB5))
        go_wp2
        go_ret
        exact ⟨g5, gc5, rfl, HF.out.1, HF.out.2⟩
      · skip
        go_wp2_with (first
          | (at_builtin
             refine wpList_append_own _ rfl _ _ 24 rfl W.heap.size 32 i0 (.agg #[.int .i64 0, .int .i64 0, .int .i64 0, .string ⟨#[]⟩]) 4 40 Try.underlying24 hi hz0 hz1 hz2 rfl (by decide) _ 0 [] rfl (World.ownsRow_made wq #[] 0 HBq.out.size (by decide) rfl) ⟨b, off, none⟩ k cap (cellsL (L.take k)) rfl (by rw [cellsL_len, HKL.out]) HW.out.news (oneL _) hc1.out hc2.out (by have := HBq.out.size; simp; omega) ?_
             intro v' w3 hown hgrow hnil
             obtain ⟨g, gc, rfl, hf⟩ := own_form hown (L := L.take k) (by rw [HKL.out, Nat.zero_add]) (List.nil_append _) (fun e => by have := (hnil.1 e).1; cases this)
             have hB3 : Below W.heap.size W w3 := (HBq.out.alloc HBq.out.size _).grown hgrow (by have := HBq.out.size; simp; omega) (fun x hx => by have hx' : some wq.heap.size = some x := hx; cases hx'; exact HBq.out.size)
             rw [HKL.out]
             have HO3 : Hid (w3.ownsRow W.heap.size 32 4 (.slice (some ⟨g, 0, none⟩) k gc) k (cellsL (L.take k))) := own_form2 hf HKL.out
             have HB3 : Hid (Below W.heap.size W w3) := hB3
             obtain ⟨e0, e1, e2, e3⟩ := HE.out w3 hB3
             clear hown hgrow hnil hf hB3))
        have hne3 := Later.any w3
        have u0 : ∀ s : Later w3, s.val.cell? ⟨w.heap.size, 0, none⟩ = some (.int .i64 x.a) := fun s => s.cell e0
        have u1 : ∀ s : Later w3, s.val.cell? ⟨w.heap.size, 1, none⟩ = some (.int .i64 x.b) := fun s => s.cell e1
        have u2 : ∀ s : Later w3, s.val.cell? ⟨w.heap.size, 2, none⟩ = some (.int .i64 x.c) := fun s => s.cell e2
        have u3 : ∀ s : Later w3, s.val.cell? ⟨w.heap.size, 3, none⟩ = some (.string x.d) := fun s => s.cell e3
        clear e0 e1 e2 e3
        refine wp_region_later (by kernel_rfl) (by kernel_rfl) ?_
        repeat (go_big_quiet_step (fail))
        refine wpQuiet_nil ?_
        rintro w3' ⟨s, hs⟩
        have hB3 : Below w3.heap.size w3 w3' := by rw [hs]; exact s.ok
        clear hs s u0 u1 u2 u3 hne3
        have HO3' : Hid (w3'.ownsRow W.heap.size 32 4 (.slice (some ⟨g, 0, none⟩) k gc) k (cellsL (L.take k))) := ownsRow_below HO3.out hB3
        have HB3' : Hid (Below W.heap.size W w3') := HB3.out.trans (hB3.mono HB3.out.size)
        clear hB3 HO3 HB3
        obtain ⟨e0, e1, e2, e3⟩ := HE.out w3' HB3'.out
        go_wp2_with (first
          | (at_builtin
             refine wpList_append_own _ rfl _ _ 24 rfl W.heap.size 32 i0 (.agg #[.int .i64 0, .int .i64 0, .int .i64 0, .string ⟨#[]⟩]) 4 40 Try.underlying24 hi hz0 hz1 hz2 rfl (by decide) _ k _ rfl (HO3'.out.alloc _) ⟨w3'.heap.size, 0, none⟩ 1 1 (enc4 x) rfl rfl (World.news_of_block (heap_alloc_new _ _)) (by rw [← cellsL_one]; exact oneL _) hc3.out hc4.out (by have := HB3'.out.size; simp; omega) ?_
             intro v4 w4 hown4 hgrow4 hnil4
             have hB4 : Below W.heap.size W w4 := (HB3'.out.alloc HB3'.out.size _).grown hgrow4 (by have := HB3'.out.size; simp; omega) (fun x hx => by have := (HO3'.out.lt x hx).1; exact this)
             obtain ⟨g4, gc4, rfl, hf4⟩ := own_form hown4 (L := L.take k ++ [x]) (by rw [List.length_append, HKL.out]; rfl) (by rw [cellsL_append, cellsL_one]) (fun e => by have := (hnil4.1 e).1; cases this)
             have hl4 : (L.take k ++ [x]).length = k + 1 := by rw [List.length_append, HKL.out]; rfl
             rw [hl4]
             have HO4 : Hid (w4.ownsRow W.heap.size 32 4 (.slice (some ⟨g4, 0, none⟩) (k + 1) gc4) (k + 1) (cellsL (L.take k ++ [x]))) := own_form2 hf4 hl4
             have HB4 : Hid (Below W.heap.size W w4) := hB4
             clear hown4 hgrow4 hnil4 hf4 hB4 hl4 e0 e1 e2 e3)
          | (at_builtin
             first | refine wpList_append_own _ rfl _ _ 24 rfl W.heap.size 32 i0 (.agg #[.int .i64 0, .int .i64 0, .int .i64 0, .string ⟨#[]⟩]) 4 40 Try.underlying24 hi hz0 hz1 hz2 rfl (by decide) _ (k + 1) _ rfl HO4.out ⟨b, off, none⟩ 0 _ [] rfl rfl (fun j u hu => by simp at hu) (fun u hu => by simp at hu) hc5.out hc6.out HB4.out.size ?_ | refine wpList_append_own _ rfl _ _ 24 rfl W.heap.size 32 i0 (.agg #[.int .i64 0, .int .i64 0, .int .i64 0, .string ⟨#[]⟩]) 4 40 Try.underlying24 hi hz0 hz1 hz2 rfl (by decide) _ (k + 1) _ rfl HO4.out ⟨b, off + k * 4, none⟩ 0 _ [] rfl rfl (fun j u hu => by simp at hu) (fun u hu => by simp at hu) hc5.out hc6.out HB4.out.size ?_
             intro v5 w5 hown5 hgrow5 hnil5
             have hB5 : Below W.heap.size W w5 := HB4.out.grown hgrow5 HB4.out.size (fun x hx => by have := (HO4.out.lt x hx).1; exact this)
             obtain ⟨g5, gc5, rfl, hf5⟩ := own_form hown5 (L := putB L x) (by rw [HP.out, List.length_append, HKL.out]; rfl) (by rw [HP.out, List.append_nil]) (fun e => by have := (hnil5.1 e).1; cases this)
             have HF : Hid (OwnE w5 w.heap.size g5 gc5 (putB L x) ∧ Below w.heap.size w w5) := ⟨hf5.base (by have := HBW.out.size; omega), HBW.out.trans (hB5.mono HBW.out.size)⟩
             clear hown5 hgrow5 hnil5 hf5 hB5))
        go_wp2
        go_ret
        exact ⟨g5, gc5, rfl, HF.out.1, HF.out.2⟩
end Go.Proofs.Ytnjlegphohmajaa
