/-
  The specification's test of a sequence. No condition but that the slice reads.
-/
import Derived.Test.YtjfciokpnhnhbaaSqA
namespace Go.Proofs.Ytjfciokpnhnhbaa
open Go.RowKit
set_option linter.unusedVariables false

/-- among the first i ops there is an insert of Id z -/
def insB (D : Nat → Ev) (i : Nat) (z : Int) : Bool := (List.range i).any fun j => (D j).b == 1 && (D j).a == z
theorem insB_iff {D : Nat → Ev} {i : Nat} {z : Int} : insB D i z = true ↔ ∃ j, j < i ∧ (D j).b = 1 ∧ (D j).a = z := by
  unfold insB
  rw [List.any_eq_true]
  constructor
  · rintro ⟨j, hj, h⟩
    simp at h
    exact ⟨j, List.mem_range.1 hj, h.1, h.2⟩
  · rintro ⟨j, hj, h1, h2⟩
    exact ⟨j, List.mem_range.2 hj, by simp [h1, h2]⟩
theorem insB_no {D : Nat → Ev} {i : Nat} {z : Int} (h : ∀ j, j < i → (D j).b = 1 → (D j).a ≠ z) : insB D i z = false := by
  cases hc : insB D i z with
  | false => rfl
  | true =>
    obtain ⟨j, hj, h1, h2⟩ := insB_iff.1 hc
    exact absurd h2 (h j hj h1)
def kindB (D : Nat → Ev) (i : Nat) : Bool :=
  if (D i).b = 1 then sgB (D i).d && ((D i).c == 0 || insB D i (D i).c) else if (D i).b = 2 then ((D i).d.toList == []) && insB D i (D i).c else false
/-- the op at place i is right -/
def okS (D : Nat → Ev) (i : Nat) : Bool := (inB 1 1000000 (D i).a && (i == 0 || decide ((D (i - 1)).a < (D i).a))) && kindB D i
/-- a sequence is right -/
def seqB (D : Nat → Ev) (len : Nat) : Bool := decide (len ≤ 40) && allB (okS D) len
theorem seqB_false {D : Nat → Ev} {len k : Nat} (hk : k < len) (h : okS D k = false) : seqB D len = false := by
  unfold seqB
  rw [allB_false (p := okS D) hk h]; simp
/-- right ops rise -/
theorem rise_lt {D : Nat → Ev} {n : Nat} (h : allB (okS D) n = true) : ∀ d i, i + d + 1 < n → (D i).a < (D (i + d + 1)).a
  | 0, i, hi => by
    have h1 := allB_at h hi
    unfold okS at h1
    simp at h1
    exact h1.1.2
  | d + 1, i, hi => by
    have h0 := rise_lt h d i (by omega)
    have h1 := allB_at h hi
    unfold okS at h1
    simp at h1
    have h2 := h1.1.2
    rw [show i + (d + 1) + 1 = i + d + 1 + 1 by omega]
    rw [show i + (d + 1) = i + d + 1 by omega] at h2
    omega
theorem rise_inj {D : Nat → Ev} {n i j : Nat} (h : allB (okS D) n = true) (hi : i < n) (hj : j < n) (he : (D i).a = (D j).a) : i = j := by
  rcases Nat.lt_trichotomy i j with hlt | heq | hlt
  · have := rise_lt h (j - i - 1) i (by omega)
    rw [show i + (j - i - 1) + 1 = j by omega] at this
    omega
  · exact heq
  · have := rise_lt h (i - j - 1) j (by omega)
    rw [show j + (i - j - 1) + 1 = i by omega] at this
    omega
theorem ok_pos {D : Nat → Ev} {n i : Nat} (h : allB (okS D) n = true) (hi : i < n) : 1 ≤ (D i).a ∧ (D i).a ≤ 1000000 := by
  have h1 := allB_at h hi
  unfold okS inB at h1
  simp at h1
  exact h1.1.1
theorem ins_none {D : Nat → Ev} {n : Nat} {z : Int} (h : firstA D z n = none) : insB D n z = false := insB_no fun j hj _ => firstA_none h j hj
theorem ins_some {D : Nat → Ev} {n j : Nat} {z : Int} (h : allB (okS D) n = true) (hf : firstA D z n = some j) : insB D n z = ((D j).b == 1) := by
  obtain ⟨hj, ha⟩ := firstA_some hf
  cases hb : ((D j).b == 1) with
  | true => exact insB_iff.2 ⟨j, hj, by simpa using hb, ha⟩
  | false =>
    refine insB_no fun i hi h1 h2 => ?_
    obtain rfl := rise_inj h hi hj (h2.trans ha.symm)
    rw [h1] at hb
    cases hb
theorem at_later {a : Option Addr} {len cap : Nat} {D : Nat → Ev} {z r : Int} {w : World} (hr : atZ (firstA D z len) = r) (h : ∀ t : Later w, IsEvs t.val a len cap D) (t : Later w) : Calls Try.prog 45 #[.slice a len cap, .int .i64 z] t.val fun e w'' => e = .returned (.int .i64 r) ∧ ∃ s' : Later w, w'' = s'.val :=
  (at_any a len cap D z t.val (h t)).mono fun e w' ⟨h1, h2⟩ => ⟨by rw [h1, hr], t, h2⟩
theorem in_later {n lo hi : Int} {b : Bool} (hb : inB lo hi n = b) {w : World} (t : Later w) : Calls Try.prog 31 #[.int .i64 n, .int .i64 lo, .int .i64 hi] t.val fun e w'' => e = .returned (.bool b) ∧ ∃ s' : Later w, w'' = s'.val :=
  (in_any n lo hi b hb t.val).mono fun e w' ⟨h1, h2⟩ => ⟨h1, t, h2⟩

set_option maxRecDepth 10000 in
set_option maxHeartbeats 16000000 in
theorem specSeq_any (a : Option Addr) (len cap : Nat) (D : Nat → Ev) (w : World) (h : IsEvs w a len cap D) (hF : ∀ i, i < len → (D i).d.size ≤ 9223372036854775807) :
    Calls Try.prog 30 #[.slice a len cap] w fun e w' => e = .returned (.bool (seqB D len)) ∧ Below w.heap.size w w' := by
  obtain ⟨hlc, hcm, hc⟩ := h
  by_cases h40 : 40 < len
  · have hr : Hid (seqB D len = false) := by
      show _ = _
      unfold seqB
      rw [decide_eq_false (by omega)]; rfl
    have h40' : (40 : Int) < (len : Int) := by omega
    clear hc
    go_enter Try.func30, Try.ntmps30
    go_wp2
    go_ret
    exact ⟨ret_bool hr.out.symm, Below.refl _ _⟩
  have hle : len ≤ 40 := by omega
  have hleI : decide ((40 : Int) < (len : Int)) = false := by simp; omega
  have HF : Hid (∀ i, i < len → (D i).d.size ≤ 9223372036854775807) := hF
  clear h40 hF
  go_enter Try.func30, Try.ntmps30
  go_wp2
  go_loopw [3] (fun i wr => ∃ (k : Nat), k ≤ len ∧ i = .int .i64 k ∧ Hid (allB (okS D) k = true) ∧ Below w.heap.size w wr) (fun i _ => len - (intOf i).toNat)
  case atStart => exact ⟨0, Nat.zero_le _, rfl, rfl, Below.refl _ _⟩
  case round =>
    obtain ⟨k, hk, rfl, HR, hB⟩ := hrel
    by_cases hlt : k < len
    · obtain ⟨b, off, rfl, hbs, hcell⟩ := hc (by omega)
      have hltI : (k : Int) < (len : Int) := by omega
      obtain ⟨c0, c1, c2, c3⟩ : EvAt wr b (off + k * 4) (D k) := (hcell k hlt).grow hbs hB
      obtain ⟨x, hx⟩ : ∃ x, x = D k := ⟨_, rfl⟩
      rw [← hx] at c0 c1 c2 c3
      have HX : Hid (x = D k) := hx
      have hds : x.d.size ≤ 9223372036854775807 := by rw [hx]; exact HF.out k hlt
      obtain ⟨W, hW⟩ : ∃ W, W = wr.alloc (.cells #[.int .i64 x.a, .int .i64 x.b, .int .i64 x.c, .string x.d] 36) := ⟨_, rfl⟩
      have hBW : Below w.heap.size w W := by rw [hW]; exact hB.alloc hB.size _
      have g1 : W.heap[wr.heap.size]? = some (.cells #[.int .i64 x.a, .int .i64 x.b, .int .i64 x.c, .string x.d] 36) := by rw [hW]; exact heap_alloc_new _ _
      have HBW : Hid (Below w.heap.size w W) := hBW
      have HE : Hid (∀ w', Below W.heap.size W w' → w'.cell? ⟨wr.heap.size, 0, none⟩ = some (.int .i64 x.a) ∧ w'.cell? ⟨wr.heap.size, 1, none⟩ = some (.int .i64 x.b) ∧ w'.cell? ⟨wr.heap.size, 2, none⟩ = some (.int .i64 x.c) ∧ w'.cell? ⟨wr.heap.size, 3, none⟩ = some (.string x.d)) := by
        intro w' hB'
        have hh := (hB'.block _ (lt_of_block g1)).trans g1
        exact ⟨cellN hh, cellN hh, cellN hh, cellN hh⟩
      have HC : Hid (∀ w', Below W.heap.size W w' → ∀ i, i < len → EvAt w' b (off + i * 4) (D i)) := fun w' hB' i hi => (hcell i hi).grow hbs (hBW.trans (hB'.mono hBW.size))
      have HP : Hid (∀ w', Below W.heap.size W w' → IsEvs w' (some ⟨b, off, none⟩) k cap D) := fun w' hB' => ⟨by omega, hcm, fun _ => ⟨b, off, rfl, by have := hBW.size; have := hB'.size; omega, fun i hi => HC.out w' hB' i (by omega)⟩⟩
      have HW : Hid (W = _) := hW
      have hne := Later.any W
      have hE0 := HE.out W (Below.refl _ _)
      have p0 : ∀ s : Later W, s.val.cell? ⟨wr.heap.size, 0, none⟩ = some (.int .i64 x.a) := fun s => s.cell hE0.1
      have hrest : Hid (okS D k = ((inB 1 1000000 x.a && (k == 0 || decide ((D (k - 1)).a < x.a))) && kindB D k)) := by show _ = _; unfold okS; rw [← hx]
      have hkind : Hid (kindB D k = if x.b = 1 then sgB x.d && (x.c == 0 || insB D k x.c) else if x.b = 2 then (x.d.toList == []) && insB D k x.c else false) := by show _ = _; unfold kindB; rw [← hx]
      clear hcell hc hB hBW g1 hx hW
      cases hid : inB 1 1000000 x.a with
      | false =>
        have hr : Hid (seqB D len = false) := seqB_false hlt (by rw [hrest.out, hid]; rfl)
        clear HR
        go_wp2
        rw [← HW.out]
        refine wp_region_later (by kernel_rfl) (by kernel_rfl) ?_
        repeat (go_big_quiet_step ((rename_i t; first | with_reducible exact in_later hid t)))
        refine wpQuiet_nil ?_
        rintro w7 ⟨s, hs⟩
        have hBw7 : Below W.heap.size W w7 := by rw [hs]; exact s.ok
        clear hs s
        go_wp2
        go_ret
        exact ⟨ret_bool hr.out.symm, HBW.out.trans (hBw7.mono HBW.out.size)⟩
      | true =>
        by_cases hk0 : k = 0
        · have hk0n : ¬ (0 < k) := by omega
          have hk0i : (k : Int) ≤ 0 := by omega
          have hk0d : decide ((0 : Int) < (k : Int)) = false := by simp; omega
          have HS : Hid (okS D k = kindB D k) := by show _ = _; rw [hrest.out, hid, hk0]; rfl
          clear hk0
          go_wp2
          rw [← HW.out]
          refine wp_region_later (by kernel_rfl) (by kernel_rfl) ?_
          repeat (go_big_quiet_step ((rename_i t; first | with_reducible exact in_later hid t)))
          refine wpQuiet_nil ?_
          rintro w7 ⟨s, hs⟩
          have hBw7 : Below W.heap.size W w7 := by rw [hs]; exact s.ok
          clear hs s
          have HB7 : Hid (Below W.heap.size W w7) := hBw7
          have hne7 := Later.any w7
          have hE7 := HE.out w7 hBw7
          have r2 : ∀ s : Later w7, s.val.cell? ⟨wr.heap.size, 2, none⟩ = some (.int .i64 x.c) := fun s => s.cell hE7.2.2.1
          have HT : Hid (∀ t : Later w7, IsEvs t.val (some ⟨b, off, none⟩) (k) cap D) := fun t => HP.out t.val (hBw7.trans (t.ok.mono hBw7.size))
          clear hBw7 p0 hE0 hE7 hne
          cases hf : firstA D x.c (k) with
          | none =>
            have HI : Hid (insB D (k) x.c = false) := ins_none hf
            have hz : atZ (firstA D x.c (k)) = -1 := by rw [hf]; rfl
            go_wp2
            refine wp_region_later (by kernel_rfl) (by kernel_rfl) ?_
            repeat (go_big_quiet_step ((rename_i t; first | with_reducible exact at_later hz HT.out t)))
            refine wpQuiet_nil ?_
            rintro w9 ⟨s, hs⟩
            have hBw9 : Below w7.heap.size w7 w9 := by rw [hs]; exact s.ok
            clear hs s
            clear hz hf
            have HB9 : Hid (Below W.heap.size W w9) := HB7.out.trans (hBw9.mono HB7.out.size)
            obtain ⟨e0, e1, e2, e3⟩ := HE.out w9 HB9.out
            clear hBw9 r2 hne7 e0
            by_cases hb1 : x.b = 1
            · have e5 : (x.b == 1) = true := by simp [hb1]
              cases hsg : sgB x.d with
              | false =>
                have hr : Hid (seqB D len = false) := seqB_false hlt (by rw [HS.out, hkind.out, if_pos hb1, hsg] <;> rfl)
                clear HR
                go_wp2_with (go_at_call 49; refine (specSign_any x.d hds false hsg _).mono ?_; rintro e w1 ⟨rfl, rfl⟩)
                go_ret
                exact ⟨ret_bool hr.out.symm, HBW.out.trans (HB9.out.mono HBW.out.size)⟩
              | true =>
                by_cases hc0 : x.c = 0
                · have e6 : (x.c != 0) = false := by simp [hc0]
                  have e6' : (x.c == 0) = true := by simp [hc0]
                  clear hc0
                  have HR' : Hid (allB (okS D) (k + 1) = true) := by show _ = _; rw [allB_succ, HR.out, HS.out, hkind.out, if_pos hb1, hsg, e6'] <;> rfl
                  clear HR
                  go_wp2_with (go_at_call 49; refine (specSign_any x.d hds true hsg _).mono ?_; rintro e w1 ⟨rfl, rfl⟩)
                  go_roundw
                  case rel => exact ⟨k + 1, by omega, by go_num, HR', HBW.out.trans (HB9.out.mono HBW.out.size)⟩
                  case measure => simp [intOf]; omega
                · have e6 : (x.c != 0) = true := by simp [hc0]
                  have e6' : (x.c == 0) = false := by simp [hc0]
                  clear hc0
                  have hr : Hid (seqB D len = false) := seqB_false hlt (by rw [HS.out, hkind.out, if_pos hb1, hsg, e6', HI.out] <;> rfl)
                  clear HR
                  go_wp2_with (go_at_call 49; refine (specSign_any x.d hds true hsg _).mono ?_; rintro e w1 ⟨rfl, rfl⟩)
                  go_ret
                  exact ⟨ret_bool hr.out.symm, HBW.out.trans (HB9.out.mono HBW.out.size)⟩
            · have e5 : (x.b == 1) = false := by simp [hb1]
              by_cases hb2 : x.b = 2
              · have e7 : (x.b == 2) = true := by simp [hb2]
                cases hem : (x.d.toList == []) with
                | false =>
                  have e8 : (x.d.toList != []) = true := by simp [bne, hem]
                  have hr : Hid (seqB D len = false) := seqB_false hlt (by rw [HS.out, hkind.out, if_neg hb1, if_pos hb2, hem] <;> rfl)
                  clear HR
                  go_wp2
                  go_ret
                  exact ⟨ret_bool hr.out.symm, HBW.out.trans (HB9.out.mono HBW.out.size)⟩
                | true =>
                  have e8 : (x.d.toList != []) = false := by simp [bne, hem]
                  have hr : Hid (seqB D len = false) := seqB_false hlt (by rw [HS.out, hkind.out, if_neg hb1, if_pos hb2, hem, HI.out] <;> rfl)
                  clear HR
                  go_wp2
                  go_ret
                  exact ⟨ret_bool hr.out.symm, HBW.out.trans (HB9.out.mono HBW.out.size)⟩
              · have e7 : (x.b == 2) = false := by simp [hb2]
                have hr : Hid (seqB D len = false) := seqB_false hlt (by rw [HS.out, hkind.out, if_neg hb1, if_neg hb2] <;> rfl)
                clear HR
                go_wp2
                go_ret
                exact ⟨ret_bool hr.out.symm, HBW.out.trans (HB9.out.mono HBW.out.size)⟩
          | some j2 => exact absurd (firstA_some hf).1 (by omega)
        · obtain ⟨j, rfl⟩ : ∃ j, k = j + 1 := ⟨k - 1, by omega⟩
          obtain ⟨y, hy⟩ : ∃ y, y = D j := ⟨_, rfl⟩
          have m2 : EvAt W b (off + j * 4) y := by rw [hy]; exact HC.out W (Below.refl _ _) j (by omega)
          have q0 : ∀ s : Later W, s.val.cell? ⟨b, off + j * 4, none⟩ = some (.int .i64 y.a) := fun s => s.cell m2.c0
          have HY : Hid (y = D j) := hy
          clear hk0 m2 hy
          by_cases hge : x.a ≤ y.a
          · have hr : Hid (seqB D len = false) := seqB_false hlt (by
              rw [hrest.out, hid, show j + 1 - 1 = j by omega, ← HY.out, decide_eq_false (show ¬ y.a < x.a by omega)]
              simp)
            clear HR
            go_wp2
            rw [← HW.out]
            refine wp_region_later (by kernel_rfl) (by kernel_rfl) ?_
            repeat (go_big_quiet_step ((rename_i t; first | with_reducible exact in_later hid t)))
            refine wpQuiet_nil ?_
            rintro w7 ⟨s, hs⟩
            have hBw7 : Below W.heap.size W w7 := by rw [hs]; exact s.ok
            clear hs s
            go_wp2
            go_ret
            exact ⟨ret_bool hr.out.symm, HBW.out.trans (hBw7.mono HBW.out.size)⟩
          · have hged : decide (x.a ≤ y.a) = false := by simpa using hge
            have HS : Hid (okS D (j + 1) = kindB D (j + 1)) := by
              show _ = _
              rw [hrest.out, hid, show j + 1 - 1 = j by omega, ← HY.out, decide_eq_true (show y.a < x.a by omega)]
              simp
            clear hge
            go_wp2
            rw [← HW.out]
            refine wp_region_later (by kernel_rfl) (by kernel_rfl) ?_
            repeat (go_big_quiet_step ((rename_i t; first | with_reducible exact in_later hid t)))
            refine wpQuiet_nil ?_
            rintro w7 ⟨s, hs⟩
            have hBw7 : Below W.heap.size W w7 := by rw [hs]; exact s.ok
            clear hs s
            have HB7 : Hid (Below W.heap.size W w7) := hBw7
            have hne7 := Later.any w7
            have hE7 := HE.out w7 hBw7
            have r2 : ∀ s : Later w7, s.val.cell? ⟨wr.heap.size, 2, none⟩ = some (.int .i64 x.c) := fun s => s.cell hE7.2.2.1
            have HT : Hid (∀ t : Later w7, IsEvs t.val (some ⟨b, off, none⟩) (j + 1) cap D) := fun t => HP.out t.val (hBw7.trans (t.ok.mono hBw7.size))
            clear hBw7 p0 hE0 hE7 hne q0
            cases hf : firstA D x.c (j + 1) with
            | none =>
              have HI : Hid (insB D (j + 1) x.c = false) := ins_none hf
              have hz : atZ (firstA D x.c (j + 1)) = -1 := by rw [hf]; rfl
              go_wp2
              refine wp_region_later (by kernel_rfl) (by kernel_rfl) ?_
              repeat (go_big_quiet_step ((rename_i t; first | with_reducible exact at_later hz HT.out t)))
              refine wpQuiet_nil ?_
              rintro w9 ⟨s, hs⟩
              have hBw9 : Below w7.heap.size w7 w9 := by rw [hs]; exact s.ok
              clear hs s
              clear hz hf
              have HB9 : Hid (Below W.heap.size W w9) := HB7.out.trans (hBw9.mono HB7.out.size)
              obtain ⟨e0, e1, e2, e3⟩ := HE.out w9 HB9.out
              clear hBw9 r2 hne7 e0
              by_cases hb1 : x.b = 1
              · have e5 : (x.b == 1) = true := by simp [hb1]
                cases hsg : sgB x.d with
                | false =>
                  have hr : Hid (seqB D len = false) := seqB_false hlt (by rw [HS.out, hkind.out, if_pos hb1, hsg] <;> rfl)
                  clear HR
                  go_wp2_with (go_at_call 49; refine (specSign_any x.d hds false hsg _).mono ?_; rintro e w1 ⟨rfl, rfl⟩)
                  go_ret
                  exact ⟨ret_bool hr.out.symm, HBW.out.trans (HB9.out.mono HBW.out.size)⟩
                | true =>
                  by_cases hc0 : x.c = 0
                  · have e6 : (x.c != 0) = false := by simp [hc0]
                    have e6' : (x.c == 0) = true := by simp [hc0]
                    clear hc0
                    have HR' : Hid (allB (okS D) (j + 1 + 1) = true) := by show _ = _; rw [allB_succ, HR.out, HS.out, hkind.out, if_pos hb1, hsg, e6'] <;> rfl
                    clear HR
                    go_wp2_with (go_at_call 49; refine (specSign_any x.d hds true hsg _).mono ?_; rintro e w1 ⟨rfl, rfl⟩)
                    go_roundw
                    case rel => exact ⟨j + 1 + 1, by omega, by go_num, HR', HBW.out.trans (HB9.out.mono HBW.out.size)⟩
                    case measure => simp [intOf]; omega
                  · have e6 : (x.c != 0) = true := by simp [hc0]
                    have e6' : (x.c == 0) = false := by simp [hc0]
                    clear hc0
                    have hr : Hid (seqB D len = false) := seqB_false hlt (by rw [HS.out, hkind.out, if_pos hb1, hsg, e6', HI.out] <;> rfl)
                    clear HR
                    go_wp2_with (go_at_call 49; refine (specSign_any x.d hds true hsg _).mono ?_; rintro e w1 ⟨rfl, rfl⟩)
                    go_ret
                    exact ⟨ret_bool hr.out.symm, HBW.out.trans (HB9.out.mono HBW.out.size)⟩
              · have e5 : (x.b == 1) = false := by simp [hb1]
                by_cases hb2 : x.b = 2
                · have e7 : (x.b == 2) = true := by simp [hb2]
                  cases hem : (x.d.toList == []) with
                  | false =>
                    have e8 : (x.d.toList != []) = true := by simp [bne, hem]
                    have hr : Hid (seqB D len = false) := seqB_false hlt (by rw [HS.out, hkind.out, if_neg hb1, if_pos hb2, hem] <;> rfl)
                    clear HR
                    go_wp2
                    go_ret
                    exact ⟨ret_bool hr.out.symm, HBW.out.trans (HB9.out.mono HBW.out.size)⟩
                  | true =>
                    have e8 : (x.d.toList != []) = false := by simp [bne, hem]
                    have hr : Hid (seqB D len = false) := seqB_false hlt (by rw [HS.out, hkind.out, if_neg hb1, if_pos hb2, hem, HI.out] <;> rfl)
                    clear HR
                    go_wp2
                    go_ret
                    exact ⟨ret_bool hr.out.symm, HBW.out.trans (HB9.out.mono HBW.out.size)⟩
                · have e7 : (x.b == 2) = false := by simp [hb2]
                  have hr : Hid (seqB D len = false) := seqB_false hlt (by rw [HS.out, hkind.out, if_neg hb1, if_neg hb2] <;> rfl)
                  clear HR
                  go_wp2
                  go_ret
                  exact ⟨ret_bool hr.out.symm, HBW.out.trans (HB9.out.mono HBW.out.size)⟩
            | some j2 =>
              have HI0 : Hid (insB D (j + 1) x.c = ((D j2).b == 1)) := ins_some HR.out hf
              have hz : atZ (firstA D x.c (j + 1)) = (j2 : Int) := by rw [hf]; rfl
              have hj2 : j2 < j + 1 := (firstA_some hf).1
              have hj2I : (j2 : Int) < (len : Int) := by omega
              go_wp2
              refine wp_region_later (by kernel_rfl) (by kernel_rfl) ?_
              repeat (go_big_quiet_step ((rename_i t; first | with_reducible exact at_later hz HT.out t)))
              refine wpQuiet_nil ?_
              rintro w9 ⟨s, hs⟩
              have hBw9 : Below w7.heap.size w7 w9 := by rw [hs]; exact s.ok
              clear hs s
              clear hz hf
              cases hbj : ((D j2).b == 1) with
              | true =>
                have HI : Hid (insB D (j + 1) x.c = true) := HI0.out.trans hbj
                have HB9 : Hid (Below W.heap.size W w9) := HB7.out.trans (hBw9.mono HB7.out.size)
                obtain ⟨e0, e1, e2, e3⟩ := HE.out w9 HB9.out
                clear hBw9 r2 hne7 e0
                have d1 := (HC.out w9 HB9.out j2 (by omega)).c1
                by_cases hb1 : x.b = 1
                · have e5 : (x.b == 1) = true := by simp [hb1]
                  cases hsg : sgB x.d with
                  | false =>
                    have hr : Hid (seqB D len = false) := seqB_false hlt (by rw [HS.out, hkind.out, if_pos hb1, hsg] <;> rfl)
                    clear HR
                    go_wp2_with (go_at_call 49; refine (specSign_any x.d hds false hsg _).mono ?_; rintro e w1 ⟨rfl, rfl⟩)
                    go_ret
                    exact ⟨ret_bool hr.out.symm, HBW.out.trans (HB9.out.mono HBW.out.size)⟩
                  | true =>
                    by_cases hc0 : x.c = 0
                    · have e6 : (x.c != 0) = false := by simp [hc0]
                      have e6' : (x.c == 0) = true := by simp [hc0]
                      clear hc0
                      have HR' : Hid (allB (okS D) (j + 1 + 1) = true) := by show _ = _; rw [allB_succ, HR.out, HS.out, hkind.out, if_pos hb1, hsg, e6'] <;> rfl
                      clear HR
                      go_wp2_with (go_at_call 49; refine (specSign_any x.d hds true hsg _).mono ?_; rintro e w1 ⟨rfl, rfl⟩)
                      go_roundw
                      case rel => exact ⟨j + 1 + 1, by omega, by go_num, HR', HBW.out.trans (HB9.out.mono HBW.out.size)⟩
                      case measure => simp [intOf]; omega
                    · have e6 : (x.c != 0) = true := by simp [hc0]
                      have e6' : (x.c == 0) = false := by simp [hc0]
                      clear hc0
                      have HR' : Hid (allB (okS D) (j + 1 + 1) = true) := by show _ = _; rw [allB_succ, HR.out, HS.out, hkind.out, if_pos hb1, hsg, e6', HI.out] <;> rfl
                      clear HR
                      go_wp2_with (go_at_call 49; refine (specSign_any x.d hds true hsg _).mono ?_; rintro e w1 ⟨rfl, rfl⟩)
                      go_roundw
                      case rel => exact ⟨j + 1 + 1, by omega, by go_num, HR', HBW.out.trans (HB9.out.mono HBW.out.size)⟩
                      case measure => simp [intOf]; omega
                · have e5 : (x.b == 1) = false := by simp [hb1]
                  by_cases hb2 : x.b = 2
                  · have e7 : (x.b == 2) = true := by simp [hb2]
                    cases hem : (x.d.toList == []) with
                    | false =>
                      have e8 : (x.d.toList != []) = true := by simp [bne, hem]
                      have hr : Hid (seqB D len = false) := seqB_false hlt (by rw [HS.out, hkind.out, if_neg hb1, if_pos hb2, hem] <;> rfl)
                      clear HR
                      go_wp2
                      go_ret
                      exact ⟨ret_bool hr.out.symm, HBW.out.trans (HB9.out.mono HBW.out.size)⟩
                    | true =>
                      have e8 : (x.d.toList != []) = false := by simp [bne, hem]
                      have HR' : Hid (allB (okS D) (j + 1 + 1) = true) := by show _ = _; rw [allB_succ, HR.out, HS.out, hkind.out, if_neg hb1, if_pos hb2, hem, HI.out] <;> rfl
                      clear HR
                      go_wp2
                      go_roundw
                      case rel => exact ⟨j + 1 + 1, by omega, by go_num, HR', HBW.out.trans (HB9.out.mono HBW.out.size)⟩
                      case measure => simp [intOf]; omega
                  · have e7 : (x.b == 2) = false := by simp [hb2]
                    have hr : Hid (seqB D len = false) := seqB_false hlt (by rw [HS.out, hkind.out, if_neg hb1, if_neg hb2] <;> rfl)
                    clear HR
                    go_wp2
                    go_ret
                    exact ⟨ret_bool hr.out.symm, HBW.out.trans (HB9.out.mono HBW.out.size)⟩
              | false =>
                have HI : Hid (insB D (j + 1) x.c = false) := HI0.out.trans hbj
                have HB9 : Hid (Below W.heap.size W w9) := HB7.out.trans (hBw9.mono HB7.out.size)
                obtain ⟨e0, e1, e2, e3⟩ := HE.out w9 HB9.out
                clear hBw9 r2 hne7 e0
                have d1 := (HC.out w9 HB9.out j2 (by omega)).c1
                by_cases hb1 : x.b = 1
                · have e5 : (x.b == 1) = true := by simp [hb1]
                  cases hsg : sgB x.d with
                  | false =>
                    have hr : Hid (seqB D len = false) := seqB_false hlt (by rw [HS.out, hkind.out, if_pos hb1, hsg] <;> rfl)
                    clear HR
                    go_wp2_with (go_at_call 49; refine (specSign_any x.d hds false hsg _).mono ?_; rintro e w1 ⟨rfl, rfl⟩)
                    go_ret
                    exact ⟨ret_bool hr.out.symm, HBW.out.trans (HB9.out.mono HBW.out.size)⟩
                  | true =>
                    by_cases hc0 : x.c = 0
                    · have e6 : (x.c != 0) = false := by simp [hc0]
                      have e6' : (x.c == 0) = true := by simp [hc0]
                      clear hc0
                      have HR' : Hid (allB (okS D) (j + 1 + 1) = true) := by show _ = _; rw [allB_succ, HR.out, HS.out, hkind.out, if_pos hb1, hsg, e6'] <;> rfl
                      clear HR
                      go_wp2_with (go_at_call 49; refine (specSign_any x.d hds true hsg _).mono ?_; rintro e w1 ⟨rfl, rfl⟩)
                      go_roundw
                      case rel => exact ⟨j + 1 + 1, by omega, by go_num, HR', HBW.out.trans (HB9.out.mono HBW.out.size)⟩
                      case measure => simp [intOf]; omega
                    · have e6 : (x.c != 0) = true := by simp [hc0]
                      have e6' : (x.c == 0) = false := by simp [hc0]
                      clear hc0
                      have hr : Hid (seqB D len = false) := seqB_false hlt (by rw [HS.out, hkind.out, if_pos hb1, hsg, e6', HI.out] <;> rfl)
                      clear HR
                      go_wp2_with (go_at_call 49; refine (specSign_any x.d hds true hsg _).mono ?_; rintro e w1 ⟨rfl, rfl⟩)
                      go_ret
                      exact ⟨ret_bool hr.out.symm, HBW.out.trans (HB9.out.mono HBW.out.size)⟩
                · have e5 : (x.b == 1) = false := by simp [hb1]
                  by_cases hb2 : x.b = 2
                  · have e7 : (x.b == 2) = true := by simp [hb2]
                    cases hem : (x.d.toList == []) with
                    | false =>
                      have e8 : (x.d.toList != []) = true := by simp [bne, hem]
                      have hr : Hid (seqB D len = false) := seqB_false hlt (by rw [HS.out, hkind.out, if_neg hb1, if_pos hb2, hem] <;> rfl)
                      clear HR
                      go_wp2
                      go_ret
                      exact ⟨ret_bool hr.out.symm, HBW.out.trans (HB9.out.mono HBW.out.size)⟩
                    | true =>
                      have e8 : (x.d.toList != []) = false := by simp [bne, hem]
                      have hr : Hid (seqB D len = false) := seqB_false hlt (by rw [HS.out, hkind.out, if_neg hb1, if_pos hb2, hem, HI.out] <;> rfl)
                      clear HR
                      go_wp2
                      go_ret
                      exact ⟨ret_bool hr.out.symm, HBW.out.trans (HB9.out.mono HBW.out.size)⟩
                  · have e7 : (x.b == 2) = false := by simp [hb2]
                    have hr : Hid (seqB D len = false) := seqB_false hlt (by rw [HS.out, hkind.out, if_neg hb1, if_neg hb2] <;> rfl)
                    clear HR
                    go_wp2
                    go_ret
                    exact ⟨ret_bool hr.out.symm, HBW.out.trans (HB9.out.mono HBW.out.size)⟩
    · have hke : k = len := by omega
      subst hke
      have hr : Hid (seqB D k = true) := by
        show _ = _
        unfold seqB
        rw [HR.out, decide_eq_true hle]; rfl
      clear HR
      go_wp2
      go_ret
      exact ⟨ret_bool hr.out.symm, hB⟩
end Go.Proofs.Ytjfciokpnhnhbaa
