/-
  Both halves of BeatsPruned: which beats are kept. No condition but that the slices read.
-/
import Derived.Test.YtnjlegphohmajaaBtOk
import Derived.Handy
namespace Go.Proofs.Ytnjlegphohmajaa
open Go.RowKit
set_option linter.unusedVariables false

/-- a beat that is not too old -/
def keepB (now : Int) (x : Ev) : Bool := decide (now - x.c ≤ 30)
/-- of the first k beats those that are kept -/
def prTo (D : Nat → Ev) (now : Int) : Nat → List Ev
  | 0 => []
  | k + 1 => if keepB now (D k) = true then prTo D now k ++ [D k] else prTo D now k
theorem prTo_len (D : Nat → Ev) (now : Int) : ∀ k, (prTo D now k).length ≤ k
  | 0 => Nat.le_refl _
  | k + 1 => by
    unfold prTo
    have := prTo_len D now k
    split
    · simp; omega
    · omega
def prB (D : Nat → Ev) (len : Nat) (now : Int) : Bool := beatsB D len && inB 0 1000000 now
def prR (D : Nat → Ev) (len : Nat) (now : Int) : List Ev := if prB D len now = true then prTo D now len else []
theorem prR_len (D : Nat → Ev) (len : Nat) (now : Int) : (prR D len now).length ≤ 12 := by
  unfold prR
  split
  · rename_i h
    unfold prB beatsB at h
    simp only [Bool.and_eq_true, decide_eq_true_eq] at h
    have := prTo_len D now len
    omega
  · simp
theorem beatsB_at {D : Nat → Ev} {len k : Nat} (h : beatsB D len = true) (hk : k < len) : (D k).fine = true := by
  unfold beatsB at h
  simp only [Bool.and_eq_true] at h
  have := allB_at h.2 hk
  unfold okAt at this
  simp only [Bool.and_eq_true] at this
  exact this.1
theorem fine_c {x : Ev} (h : x.fine = true) : 0 ≤ x.c ∧ x.c ≤ 1000000 := by
  unfold Ev.fine inB at h
  simp only [Bool.and_eq_true, decide_eq_true_eq] at h
  exact h.2.2.1
theorem inB_at {lo hi n : Int} (h : inB lo hi n = true) : lo ≤ n ∧ n ≤ hi := by
  unfold inB at h
  simp only [Bool.and_eq_true, decide_eq_true_eq] at h
  exact h

set_option maxRecDepth 10000 in
set_option maxHeartbeats 2000000 in
theorem specPruned_any (a : Option Addr) (len cap : Nat) (D : Nat → Ev) (now : Int) (w : World) (h : IsEvs w a len cap D) (hF : ∀ i, i < len → (D i).in) :
    Calls Try.prog 24 #[.slice a len cap, .int .i64 now] w fun e w' => ∃ v, e = .returned v ∧ OwnV w' w.heap.size v (prR D len now) ∧ Below w.heap.size w w' := by
  obtain ⟨i0, hi, hz0, hz1, hz2⟩ := info_parts infoE
  have HB0 : Hid (Below w.heap.size w (w.alloc (.cells #[] 32))) := (Below.refl _ _).alloc (Nat.le_refl _) _
  have HO0 : Hid (OwnV (w.alloc (.cells #[] 32)) w.heap.size (.slice (some ⟨w.heap.size, 0, none⟩) 0 0) []) := World.ownsRow_made w #[] 0 (Nat.le_refl _) (by decide) rfl
  have h0 := h.below HB0.out
  go_enter Try.func24, Try.ntmps24
  go_wp2_with fail
  refine (specBeats_any a len cap D _ h0 hF).mono ?_
  rintro e w1 ⟨rfl, hB1⟩
  have HB1 : Hid (Below w.heap.size w w1) := HB0.out.trans (hB1.mono HB0.out.size)
  have HO1 : Hid (OwnV w1 w.heap.size (.slice (some ⟨w.heap.size, 0, none⟩) 0 0) []) := HO0.out.below hB1
  clear hB1 h0 HB0 HO0
  cases hb : beatsB D len with
  | false =>
    have HR : Hid (prR D len now = []) := by show _ = _; unfold prR prB; rw [hb]; rfl
    go_wp2
    go_ret
    exact ⟨_, rfl, by rw [HR.out]; exact HO1.out, HB1.out⟩
  | true =>
    go_wp2_with fail
    refine (in_any now 0 1000000 _ rfl w1).mono ?_
    rintro e w2 ⟨rfl, hw⟩
    rw [hw]; clear hw w2
    cases hn : inB 0 1000000 now with
    | false =>
      have HR : Hid (prR D len now = []) := by show _ = _; unfold prR prB; rw [hb, hn]; rfl
      go_wp2
      go_ret
      exact ⟨_, rfl, by rw [HR.out]; exact HO1.out, HB1.out⟩
    | true =>
      have HR : Hid (prR D len now = prTo D now len) := by show _ = _; unfold prR prB; rw [hb, hn]; rfl
      have HC : Hid (∀ i, i < len → 0 ≤ (D i).c ∧ (D i).c ≤ 1000000) := fun i hi => fine_c (beatsB_at hb hi)
      have hl12 : len ≤ 12 := by unfold beatsB at hb; simp only [Bool.and_eq_true, decide_eq_true_eq] at hb; exact hb.1
      obtain ⟨hn0, hn1⟩ := inB_at hn
      obtain ⟨hlc, hcm, hc⟩ := h
      clear hF hb hn
      go_wp2
      go_loopw [5, 6] (fun v i wr => ∃ (k : Nat), k ≤ len ∧ i = .int .i64 k ∧ Hid (OwnV wr w.heap.size v (prTo D now k)) ∧ Hid (Below w.heap.size w wr)) (fun _ i _ => len - (intOf i).toNat)
      case atStart => exact ⟨0, Nat.zero_le _, rfl, HO1, HB1⟩
      case round =>
        obtain ⟨k, hk, rfl, HO, HB⟩ := hrel
        by_cases hlt : k < len
        · obtain ⟨b, off, rfl, hbs, hcell⟩ := hc (by omega)
          obtain ⟨c0, c1, c2, c3⟩ : EvAt wr b (off + k * 4) (D k) := (hcell k hlt).grow hbs HB.out
          have hltI : (k : Int) < (len : Int) := by omega
          obtain ⟨hd0, hd1⟩ := HC.out k hlt
          clear hcell hc
          by_cases hgt : now < (D k).c
          · have hkb : keepB now (D k) = true := by unfold keepB; simp; omega
            have HT : Hid (prTo D now (k + 1) = prTo D now k ++ [D k]) := by show _ = _; rw [prTo, if_pos hkb]
            obtain ⟨q, hq⟩ : ∃ q, q = (prTo D now k).length := ⟨_, rfl⟩
            have hq12 : q ≤ 12 := by rw [hq]; have := prTo_len D now k; omega
            have HO' : Hid (wr.ownsRow w.heap.size 32 4 u5 q (cellsL (prTo D now k))) := by rw [hq]; exact HO.out
            have HQ : Hid (q = (prTo D now k).length ∧ q + 1 ≤ maxLen ∧ (q + 1) * 40 ≤ 140737488355328) := ⟨hq, by unfold maxLen; omega, by omega⟩
            have HBW : Hid (Below w.heap.size w (wr.alloc (.cells #[.int .i64 (D k).a, .int .i64 (D k).b, .int .i64 (D k).c, .string (D k).d] 32))) := (HB.out.alloc HB.out.size _)
            have HZ : Hid (w.heap.size ≤ (wr.alloc (.cells #[.int .i64 (D k).a, .int .i64 (D k).b, .int .i64 (D k).c, .string (D k).d] 32)).heap.size) := HBW.out.size
            have HN : Hid (∀ j u, (enc4 (D k))[j]? = some u → (wr.alloc (.cells #[.int .i64 (D k).a, .int .i64 (D k).b, .int .i64 (D k).c, .string (D k).d] 32)).cell? ((⟨wr.heap.size, 0, none⟩ : Addr).add j) = some u) := by
              show ∀ j u, _
              have := World.news_of_block (heap_alloc_new wr (.cells #[.int .i64 (D k).a, .int .i64 (D k).b, .int .i64 (D k).c, .string (D k).d] 32))
              simpa [enc4] using this
            clear hq hq12
            go_wp2_with (at_builtin; refine wpList_append_own _ rfl _ _ 24 rfl w.heap.size 32 i0 (.agg #[.int .i64 0, .int .i64 0, .int .i64 0, .string ⟨#[]⟩]) 4 40 Try.underlying24 hi hz0 hz1 hz2 rfl (by decide) _ q _ rfl (HO'.out.alloc _) ⟨wr.heap.size, 0, none⟩ 1 1 (enc4 (D k)) rfl rfl HN.out (by rw [← cellsL_one]; exact oneL _) HQ.out.2.1 HQ.out.2.2 HZ.out ?_; intro v4 w4 hown4 hgrow4 hnil4)
            have HF : Hid (OwnV w4 w.heap.size v4 (prTo D now (k + 1)) ∧ Below w.heap.size w w4) := by
              refine ⟨?_, HBW.out.grown hgrow4 HBW.out.size (fun x hx => (HO'.out.lt x hx).1)⟩
              unfold OwnV
              rw [HT.out, List.length_append, ← HQ.out.1, cellsL_append, cellsL_one]
              exact hown4
            clear hown4 hgrow4 hnil4
            go_wp2
            go_roundw
            case rel => exact ⟨k + 1, by omega, by go_num, HF.out.1, HF.out.2⟩
            case measure => simp [intOf]; omega
          have hgd : decide (now < (D k).c) = false := by simp; omega
          clear hgt
          by_cases hkk : now - (D k).c ≤ 30
          · have hkb : keepB now (D k) = true := by unfold keepB; simp; omega
            have HT : Hid (prTo D now (k + 1) = prTo D now k ++ [D k]) := by show _ = _; rw [prTo, if_pos hkb]
            obtain ⟨q, hq⟩ : ∃ q, q = (prTo D now k).length := ⟨_, rfl⟩
            have hq12 : q ≤ 12 := by rw [hq]; have := prTo_len D now k; omega
            have HO' : Hid (wr.ownsRow w.heap.size 32 4 u5 q (cellsL (prTo D now k))) := by rw [hq]; exact HO.out
            have HQ : Hid (q = (prTo D now k).length ∧ q + 1 ≤ maxLen ∧ (q + 1) * 40 ≤ 140737488355328) := ⟨hq, by unfold maxLen; omega, by omega⟩
            have HBW : Hid (Below w.heap.size w (wr.alloc (.cells #[.int .i64 (D k).a, .int .i64 (D k).b, .int .i64 (D k).c, .string (D k).d] 32))) := (HB.out.alloc HB.out.size _)
            have HZ : Hid (w.heap.size ≤ (wr.alloc (.cells #[.int .i64 (D k).a, .int .i64 (D k).b, .int .i64 (D k).c, .string (D k).d] 32)).heap.size) := HBW.out.size
            have HN : Hid (∀ j u, (enc4 (D k))[j]? = some u → (wr.alloc (.cells #[.int .i64 (D k).a, .int .i64 (D k).b, .int .i64 (D k).c, .string (D k).d] 32)).cell? ((⟨wr.heap.size, 0, none⟩ : Addr).add j) = some u) := by
              show ∀ j u, _
              have := World.news_of_block (heap_alloc_new wr (.cells #[.int .i64 (D k).a, .int .i64 (D k).b, .int .i64 (D k).c, .string (D k).d] 32))
              simpa [enc4] using this
            clear hq hq12
            go_wp2_with (at_builtin; refine wpList_append_own _ rfl _ _ 24 rfl w.heap.size 32 i0 (.agg #[.int .i64 0, .int .i64 0, .int .i64 0, .string ⟨#[]⟩]) 4 40 Try.underlying24 hi hz0 hz1 hz2 rfl (by decide) _ q _ rfl (HO'.out.alloc _) ⟨wr.heap.size, 0, none⟩ 1 1 (enc4 (D k)) rfl rfl HN.out (by rw [← cellsL_one]; exact oneL _) HQ.out.2.1 HQ.out.2.2 HZ.out ?_; intro v4 w4 hown4 hgrow4 hnil4)
            have HF : Hid (OwnV w4 w.heap.size v4 (prTo D now (k + 1)) ∧ Below w.heap.size w w4) := by
              refine ⟨?_, HBW.out.grown hgrow4 HBW.out.size (fun x hx => (HO'.out.lt x hx).1)⟩
              unfold OwnV
              rw [HT.out, List.length_append, ← HQ.out.1, cellsL_append, cellsL_one]
              exact hown4
            clear hown4 hgrow4 hnil4
            go_wp2
            go_roundw
            case rel => exact ⟨k + 1, by omega, by go_num, HF.out.1, HF.out.2⟩
            case measure => simp [intOf]; omega
          · have hkb : keepB now (D k) = false := by unfold keepB; simp; omega
            have hkd : decide (now - (D k).c ≤ 30) = false := by simp; omega
            have HF : Hid (OwnV wr w.heap.size u5 (prTo D now (k + 1)) ∧ Below w.heap.size w wr) := by
              have e : prTo D now (k + 1) = prTo D now k := by rw [prTo, if_neg (by rw [hkb]; decide)]
              rw [e]
              exact ⟨HO.out, HB.out⟩
            clear hkk HO HB
            go_wp2
            go_roundw
            case rel => exact ⟨k + 1, by omega, by go_num, HF.out.1, HF.out.2⟩
            case measure => simp [intOf]; omega
        · have hke : k = len := by omega
          subst hke
          have HF : Hid (OwnV wr w.heap.size u5 (prR D k now)) := by show OwnV _ _ _ _; rw [HR.out]; exact HO.out
          clear hc HO
          go_wp2
          go_ret
          exact ⟨_, rfl, HF.out, HB.out⟩

set_option maxRecDepth 10000 in
set_option maxHeartbeats 2000000 in
theorem implPruned_any (a : Option Addr) (len cap : Nat) (D : Nat → Ev) (now : Int) (w : World) (h : IsEvs w a len cap D) (hF : ∀ i, i < len → (D i).in) :
    Calls Try.prog 21 #[.slice a len cap, .int .i64 now] w fun e w' => ∃ v, e = .returned v ∧ OwnV w' w.heap.size v (prR D len now) ∧ Below w.heap.size w w' := by
  obtain ⟨i0, hi, hz0, hz1, hz2⟩ := info_parts infoE
  go_enter Try.func21, Try.ntmps21
  go_wp2_with fail
  refine (implBeats_any a len cap D _ h hF).mono ?_
  rintro e w1 ⟨rfl, hB1⟩
  have HB1 : Hid (Below w.heap.size w w1) := hB1
  have HO1 : Hid (OwnV w1 w.heap.size (.slice none 0 0) []) := OwnV.nil _ _
  clear hB1
  cases hb : beatsB D len with
  | false =>
    have HR : Hid (prR D len now = []) := by show _ = _; unfold prR prB; rw [hb]; rfl
    go_wp2
    go_ret
    exact ⟨_, rfl, by rw [HR.out]; exact HO1.out, HB1.out⟩
  | true =>
    go_wp2_with fail
    refine (time_any now _ rfl w1).mono ?_
    rintro e w2 ⟨rfl, hw⟩
    rw [hw]; clear hw w2
    cases hn : inB 0 1000000 now with
    | false =>
      have HR : Hid (prR D len now = []) := by show _ = _; unfold prR prB; rw [hb, hn]; rfl
      go_wp2
      go_ret
      exact ⟨_, rfl, by rw [HR.out]; exact HO1.out, HB1.out⟩
    | true =>
      have HR : Hid (prR D len now = prTo D now len) := by show _ = _; unfold prR prB; rw [hb, hn]; rfl
      have HC : Hid (∀ i, i < len → 0 ≤ (D i).c ∧ (D i).c ≤ 1000000) := fun i hi => fine_c (beatsB_at hb hi)
      have hl12 : len ≤ 12 := by unfold beatsB at hb; simp only [Bool.and_eq_true, decide_eq_true_eq] at hb; exact hb.1
      obtain ⟨hn0, hn1⟩ := inB_at hn
      obtain ⟨hlc, hcm, hc⟩ := h
      clear hF hb hn
      go_wp2
      go_loopw [5, 18] (fun v i wr => ∃ (k : Nat), k ≤ len ∧ i = .int .i64 k ∧ Hid (OwnV wr w.heap.size v (prTo D now k)) ∧ Hid (Below w.heap.size w wr)) (fun _ i _ => len - (intOf i).toNat)
      case atStart => exact ⟨0, Nat.zero_le _, rfl, HO1, HB1⟩
      case round =>
        obtain ⟨k, hk, rfl, HO, HB⟩ := hrel
        by_cases hlt : k < len
        · obtain ⟨b, off, rfl, hbs, hcell⟩ := hc (by omega)
          obtain ⟨c0, c1, c2, c3⟩ : EvAt wr b (off + k * 4) (D k) := (hcell k hlt).grow hbs HB.out
          have hltI : (k : Int) < (len : Int) := by omega
          obtain ⟨hd0, hd1⟩ := HC.out k hlt
          clear hcell hc
          have HBx : Hid (Below w.heap.size w (wr.alloc (.cells #[.int .i64 (D k).a, .int .i64 (D k).b, .int .i64 (D k).c, .string (D k).d] 32))) := HB.out.alloc HB.out.size _
          by_cases hkk : now - (D k).c ≤ 30
          · have hkb : keepB now (D k) = true := by unfold keepB; simp; omega
            have HT : Hid (prTo D now (k + 1) = prTo D now k ++ [D k]) := by show _ = _; rw [prTo, if_pos hkb]
            obtain ⟨q, hq⟩ : ∃ q, q = (prTo D now k).length := ⟨_, rfl⟩
            have hq12 : q ≤ 12 := by rw [hq]; have := prTo_len D now k; omega
            have HO' : Hid (wr.ownsRow w.heap.size 32 4 u5 q (cellsL (prTo D now k))) := by rw [hq]; exact HO.out
            have HQ : Hid (q = (prTo D now k).length ∧ q + 1 ≤ maxLen ∧ (q + 1) * 40 ≤ 140737488355328) := ⟨hq, by unfold maxLen; omega, by omega⟩
            have HBW : Hid (Below w.heap.size w ((wr.alloc (.cells #[.int .i64 (D k).a, .int .i64 (D k).b, .int .i64 (D k).c, .string (D k).d] 32)).alloc (.cells #[.int .i64 (D k).a, .int .i64 (D k).b, .int .i64 (D k).c, .string (D k).d] 32))) := ((HB.out.alloc HB.out.size _).alloc (by have := HB.out.size; simp; omega) _)
            have HZ : Hid (w.heap.size ≤ ((wr.alloc (.cells #[.int .i64 (D k).a, .int .i64 (D k).b, .int .i64 (D k).c, .string (D k).d] 32)).alloc (.cells #[.int .i64 (D k).a, .int .i64 (D k).b, .int .i64 (D k).c, .string (D k).d] 32)).heap.size) := HBW.out.size
            have HN : Hid (∀ j u, (enc4 (D k))[j]? = some u → ((wr.alloc (.cells #[.int .i64 (D k).a, .int .i64 (D k).b, .int .i64 (D k).c, .string (D k).d] 32)).alloc (.cells #[.int .i64 (D k).a, .int .i64 (D k).b, .int .i64 (D k).c, .string (D k).d] 32)).cell? ((⟨wr.heap.size + 1, 0, none⟩ : Addr).add j) = some u) := by
              show ∀ j u, _
              have := World.news_of_block (heap_alloc_new (wr.alloc (.cells #[.int .i64 (D k).a, .int .i64 (D k).b, .int .i64 (D k).c, .string (D k).d] 32)) (.cells #[.int .i64 (D k).a, .int .i64 (D k).b, .int .i64 (D k).c, .string (D k).d] 32))
              simpa [enc4] using this
            clear hq hq12
            go_wp2_with (at_builtin; refine wpList_append_own _ rfl _ _ 24 rfl w.heap.size 32 i0 (.agg #[.int .i64 0, .int .i64 0, .int .i64 0, .string ⟨#[]⟩]) 4 40 Try.underlying24 hi hz0 hz1 hz2 rfl (by decide) _ q _ rfl ((HO'.out.alloc _).alloc _) ⟨wr.heap.size + 1, 0, none⟩ 1 1 (enc4 (D k)) rfl rfl HN.out (by rw [← cellsL_one]; exact oneL _) HQ.out.2.1 HQ.out.2.2 HZ.out ?_; intro v4 w4 hown4 hgrow4 hnil4)
            have HF : Hid (OwnV w4 w.heap.size v4 (prTo D now (k + 1)) ∧ Below w.heap.size w w4) := by
              refine ⟨?_, HBW.out.grown hgrow4 HBW.out.size (fun x hx => (HO'.out.lt x hx).1)⟩
              unfold OwnV
              rw [HT.out, List.length_append, ← HQ.out.1, cellsL_append, cellsL_one]
              exact hown4
            clear hown4 hgrow4 hnil4
            go_wp2
            go_roundw
            case rel => exact ⟨k + 1, by omega, by go_num, HF.out.1, HF.out.2⟩
            case measure => simp [intOf]; omega
          · have hkb : keepB now (D k) = false := by unfold keepB; simp; omega
            have hkd : decide (now - (D k).c ≤ 30) = false := by simp; omega
            have HF : Hid (OwnV (wr.alloc (.cells #[.int .i64 (D k).a, .int .i64 (D k).b, .int .i64 (D k).c, .string (D k).d] 32)) w.heap.size u5 (prTo D now (k + 1)) ∧ Below w.heap.size w (wr.alloc (.cells #[.int .i64 (D k).a, .int .i64 (D k).b, .int .i64 (D k).c, .string (D k).d] 32))) := by
              have e : prTo D now (k + 1) = prTo D now k := by rw [prTo, if_neg (by rw [hkb]; decide)]
              rw [e]
              exact ⟨HO.out.below ((Below.refl _ _).alloc (Nat.le_refl _) _), HBx.out⟩
            clear hkk HO HB
            go_wp2
            go_roundw
            case rel => exact ⟨k + 1, by omega, by go_num, HF.out.1, HF.out.2⟩
            case measure => simp [intOf]; omega
        · have hke : k = len := by omega
          subst hke
          have HF : Hid (OwnV wr w.heap.size u5 (prR D k now)) := by show OwnV _ _ _ _; rw [HR.out]; exact HO.out
          clear hc HO
          go_wp2
          go_ret
          exact ⟨_, rfl, HF.out, HB.out⟩
end Go.Proofs.Ytnjlegphohmajaa
