/-
  Both halves of AliveAt: who beat not long ago. No condition but that the slices read.
-/
import Derived.Test.YtnjlegphohmajaaBtP
import Derived.Test.YtnjlegphohmajaaIL
namespace Go.Proofs.Ytnjlegphohmajaa
open Go.RowKit
set_option linter.unusedVariables false

/-- of the first k beats those that are alive -/
def alTo (D : Nat → Ev) (now : Int) : Nat → List Int
  | 0 => []
  | k + 1 => if (decide ((D k).c ≤ now) && keepB now (D k)) = true then alTo D now k ++ [(D k).a] else alTo D now k
def alR (D : Nat → Ev) (len : Nat) (now : Int) : List Int := if prB D len now = true then alTo D now len else []
theorem alTo_len (D : Nat → Ev) (now : Int) : ∀ k, (alTo D now k).length ≤ k
  | 0 => Nat.le_refl _
  | k + 1 => by
    unfold alTo
    have := alTo_len D now k
    split
    · simp; omega
    · omega
theorem alR_len (D : Nat → Ev) (len : Nat) (now : Int) : (alR D len now).length ≤ 12 := by
  unfold alR
  split
  · rename_i h
    unfold prB beatsB at h
    simp only [Bool.and_eq_true, decide_eq_true_eq] at h
    have := alTo_len D now len
    omega
  · simp
/-- of beats those that are not later than now -/
def inL (P : List Ev) (now : Int) : List Int := (P.filter fun x => decide (x.c ≤ now)).map (·.a)
theorem inL_pr (D : Nat → Ev) (now : Int) : ∀ k, inL (prTo D now k) now = alTo D now k
  | 0 => rfl
  | k + 1 => by
    have ih := inL_pr D now k
    unfold prTo alTo
    by_cases h1 : keepB now (D k) = true
    · rw [if_pos h1]
      unfold inL at ih ⊢
      rw [List.filter_append, List.map_append, ih]
      by_cases h2 : (D k).c ≤ now
      · simp [h1, h2]
      · simp [h1, h2]
    · rw [if_neg h1, ih]
      simp [h1]
theorem inL_pR (D : Nat → Ev) (len : Nat) (now : Int) : inL (prR D len now) now = alR D len now := by
  unfold prR alR
  split
  · exact inL_pr D now len
  · rfl
theorem inL_succ (P : List Ev) (now : Int) (k : Nat) (h : k < P.length) : inL (P.take (k + 1)) now = if (P.getD k evZ).c ≤ now then inL (P.take k) now ++ [(P.getD k evZ).a] else inL (P.take k) now := by
  unfold inL
  rw [take_succ h, List.filter_append, List.map_append]
  generalize P.getD k evZ = y
  by_cases h2 : y.c ≤ now
  · rw [if_pos h2]; simp [h2]
  · rw [if_neg h2]; simp [h2]
theorem inL_len (P : List Ev) (now : Int) : (inL P now).length ≤ P.length := by
  unfold inL
  rw [List.length_map]
  exact List.length_filter_le _ _

set_option maxRecDepth 10000 in
set_option maxHeartbeats 2000000 in
theorem specAlive_any (a : Option Addr) (len cap : Nat) (D : Nat → Ev) (now : Int) (w : World) (h : IsEvs w a len cap D) (hF : ∀ i, i < len → (D i).in) :
    Calls Try.prog 23 #[.slice a len cap, .int .i64 now] w fun e w' => ∃ v, e = .returned v ∧ OwnI w' w.heap.size v (alR D len now) ∧ Below w.heap.size w w' := by
  obtain ⟨i0, hi, hz0, hz1, hz2⟩ := info_parts infoI
  have HB0 : Hid (Below w.heap.size w (w.alloc (.cells #[] 2))) := (Below.refl _ _).alloc (Nat.le_refl _) _
  have HO0 : Hid (OwnI (w.alloc (.cells #[] 2)) w.heap.size (.slice (some ⟨w.heap.size, 0, none⟩) 0 0) []) := World.ownsRow_made w #[] 0 (Nat.le_refl _) (by decide) rfl
  have h0 := h.below HB0.out
  go_enter Try.func23, Try.ntmps23
  go_wp2_with fail
  refine (specBeats_any a len cap D _ h0 hF).mono ?_
  rintro e w1 ⟨rfl, hB1⟩
  have HB1 : Hid (Below w.heap.size w w1) := HB0.out.trans (hB1.mono HB0.out.size)
  have HO1 : Hid (OwnI w1 w.heap.size (.slice (some ⟨w.heap.size, 0, none⟩) 0 0) []) := HO0.out.below hB1
  clear hB1 h0 HB0 HO0
  cases hb : beatsB D len with
  | false =>
    have HR : Hid (alR D len now = []) := by show _ = _; unfold alR prB; rw [hb]; rfl
    go_wp2
    go_ret
    exact ⟨_, rfl, by rw [HR.out]; exact HO1.out, HB1.out⟩
  | true =>
    go_wp2_with fail
    refine (in_any now 0 1000000 _ rfl w1).mono ?_
    rintro e w2 ⟨rfl, hw⟩
    rw [hw]; clear hw w2
    cases hn : inB 0 1000000 now with
    | false =>
      have HR : Hid (alR D len now = []) := by show _ = _; unfold alR prB; rw [hb, hn]; rfl
      go_wp2
      go_ret
      exact ⟨_, rfl, by rw [HR.out]; exact HO1.out, HB1.out⟩
    | true =>
      have HR : Hid (alR D len now = alTo D now len) := by show _ = _; unfold alR prB; rw [hb, hn]; rfl
      have HC : Hid (∀ i, i < len → 0 ≤ (D i).c ∧ (D i).c ≤ 1000000) := fun i hi => fine_c (beatsB_at hb hi)
      have hl12 : len ≤ 12 := by unfold beatsB at hb; simp only [Bool.and_eq_true, decide_eq_true_eq] at hb; exact hb.1
      obtain ⟨hn0, hn1⟩ := inB_at hn
      obtain ⟨hlc, hcm, hc⟩ := h
      clear hF hb hn
      go_wp2
      go_loopw [5, 6] (fun v i wr => ∃ (k : Nat), k ≤ len ∧ i = .int .i64 k ∧ Hid (OwnI wr w.heap.size v (alTo D now k)) ∧ Hid (Below w.heap.size w wr)) (fun _ i _ => len - (intOf i).toNat)
      case atStart => exact ⟨0, Nat.zero_le _, rfl, HO1, HB1⟩
      case round =>
        obtain ⟨k, hk, rfl, HO, HB⟩ := hrel
        by_cases hlt : k < len
        · obtain ⟨b, off, rfl, hbs, hcell⟩ := hc (by omega)
          obtain ⟨c0, c1, c2, c3⟩ : EvAt wr b (off + k * 4) (D k) := (hcell k hlt).grow hbs HB.out
          have hltI : (k : Int) < (len : Int) := by omega
          have hl1 := alTo_len D now k
          obtain ⟨hd0, hd1⟩ := HC.out k hlt
          clear hcell hc
          by_cases hgt : (D k).c ≤ now
          · by_cases hkk : now - (D k).c ≤ 30
            · have hkb : (decide ((D k).c ≤ now) && keepB now (D k)) = true := by unfold keepB; simp [hgt]; omega
              have HT : Hid (alTo D now (k + 1) = alTo D now k ++ [(D k).a]) := by show _ = _; rw [alTo, if_pos hkb]
              obtain ⟨q, hq⟩ : ∃ q, q = (alTo D now k).length := ⟨_, rfl⟩
              have HO' : Hid (wr.ownsRow w.heap.size 2 1 u5 q ((alTo D now k).map (.int .i64 ·))) := by rw [hq]; exact HO.out
              have HQ : Hid (q = (alTo D now k).length ∧ q + 1 ≤ maxLen ∧ (q + 1) * 8 ≤ 140737488355328) := ⟨hq, by unfold maxLen; omega, by omega⟩
              have HBW : Hid (Below w.heap.size w (wr.alloc (.cells #[.int .i64 (D k).a] 2))) := (HB.out.alloc HB.out.size _)
              have HZ : Hid (w.heap.size ≤ (wr.alloc (.cells #[.int .i64 (D k).a] 2)).heap.size) := HBW.out.size
              have HN : Hid (∀ j u, [Value.int .i64 (D k).a][j]? = some u → (wr.alloc (.cells #[.int .i64 (D k).a] 2)).cell? ((⟨wr.heap.size, 0, none⟩ : Addr).add j) = some u) := by
                show ∀ j u, _
                have := World.news_of_block (heap_alloc_new wr (.cells #[.int .i64 (D k).a] 2))
                simpa using this
              clear hq
              go_wp2_with (at_builtin; refine wpList_append_own _ rfl _ _ 39 rfl w.heap.size 2 i0 (.int .i64 0) 1 8 Try.underlying39 hi hz0 hz1 hz2 rfl (by decide) _ q _ rfl (HO'.out.alloc _) ⟨wr.heap.size, 0, none⟩ 1 1 [.int .i64 (D k).a] rfl rfl HN.out (by simp [Value.oneCell']) HQ.out.2.1 HQ.out.2.2 HZ.out ?_; intro v4 w4 hown4 hgrow4 hnil4)
              have HF : Hid (OwnI w4 w.heap.size v4 (alTo D now (k + 1)) ∧ Below w.heap.size w w4) := by
                refine ⟨?_, HBW.out.grown hgrow4 HBW.out.size (fun x hx => (HO'.out.lt x hx).1)⟩
                unfold OwnI
                rw [HT.out, List.length_append, ← HQ.out.1, List.map_append]
                exact hown4
              clear hown4 hgrow4 hnil4
              go_wp2
              go_roundw
              case rel => exact ⟨k + 1, by omega, by go_num, HF.out.1, HF.out.2⟩
              case measure => simp [intOf]; omega
            · have hkb : ¬ ((decide ((D k).c ≤ now) && keepB now (D k)) = true) := by unfold keepB; simp; omega
              have hkd : decide (now - (D k).c ≤ 30) = false := by simp; omega
              have HF : Hid (OwnI wr w.heap.size u5 (alTo D now (k + 1)) ∧ Below w.heap.size w wr) := by
                have e : alTo D now (k + 1) = alTo D now k := by rw [alTo, if_neg hkb]
                rw [e]
                exact ⟨HO.out, HB.out⟩
              clear hkk HO HB hkb
              go_wp2
              go_roundw
              case rel => exact ⟨k + 1, by omega, by go_num, HF.out.1, HF.out.2⟩
              case measure => simp [intOf]; omega
          · have hkb : ¬ ((decide ((D k).c ≤ now) && keepB now (D k)) = true) := by simp [hgt]
            have hkd : decide ((D k).c ≤ now) = false := by simp; omega
            have HF : Hid (OwnI wr w.heap.size u5 (alTo D now (k + 1)) ∧ Below w.heap.size w wr) := by
              have e : alTo D now (k + 1) = alTo D now k := by rw [alTo, if_neg hkb]
              rw [e]
              exact ⟨HO.out, HB.out⟩
            clear hgt HO HB hkb
            go_wp2
            go_roundw
            case rel => exact ⟨k + 1, by omega, by go_num, HF.out.1, HF.out.2⟩
            case measure => simp [intOf]; omega
        · have hke : k = len := by omega
          subst hke
          have HF : Hid (OwnI wr w.heap.size u5 (alR D k now)) := by show OwnI _ _ _ _; rw [HR.out]; exact HO.out
          clear hc HO
          go_wp2
          go_ret
          exact ⟨_, rfl, HF.out, HB.out⟩

set_option maxRecDepth 10000 in
set_option maxHeartbeats 2000000 in
theorem implAlive_any (a : Option Addr) (len cap : Nat) (D : Nat → Ev) (now : Int) (w : World) (h : IsEvs w a len cap D) (hF : ∀ i, i < len → (D i).in) :
    Calls Try.prog 20 #[.slice a len cap, .int .i64 now] w fun e w' => ∃ v, e = .returned v ∧ OwnI w' w.heap.size v (alR D len now) ∧ Below w.heap.size w w' := by
  obtain ⟨i0, hi, hz0, hz1, hz2⟩ := info_parts infoI
  go_enter Try.func20, Try.ntmps20
  go_wp2_with fail
  refine (implPruned_any a len cap D now _ h hF).mono ?_
  rintro e w1 ⟨v, rfl, hO1, hB1⟩
  have HR : Hid (inL (prR D len now) now = alR D len now) := inL_pR D len now
  have hPl := prR_len D len now
  obtain ⟨P, hP⟩ : ∃ P, P = prR D len now := ⟨_, rfl⟩
  rw [← hP] at hO1 HR hPl
  clear hP h hF
  obtain ⟨a', cap', rfl, hI⟩ : ∃ a cap, v = .slice a P.length cap ∧ IsEvs w1 a P.length cap (fun i => P.getD i evZ) := by
    rcases OwnV.cases hO1 with ⟨rfl, rfl⟩ | ⟨g, cap, rfl, hO⟩
    · exact ⟨none, 0, rfl, Nat.le_refl _, by omega, fun h => absurd h (Nat.lt_irrefl _)⟩
    · exact ⟨_, cap, rfl, hO.evs⟩
  have HB1 : Hid (Below w.heap.size w w1) := hB1
  have HO1 : Hid (OwnI w1 w1.heap.size (.slice none 0 0) (inL (P.take 0) now)) := OwnI.nil _ _
  obtain ⟨n, hn⟩ : ∃ n, n = P.length := ⟨_, rfl⟩
  have HN : Hid (n = P.length) := hn
  rw [← hn] at hI hPl ⊢
  obtain ⟨hlc, hcm, hc⟩ := hI
  clear hn hO1 hB1
  go_wp2
  go_loopw [5, 12] (fun v i wr => ∃ (k : Nat), k ≤ n ∧ i = .int .i64 k ∧ Hid (OwnI wr w1.heap.size v (inL (P.take k) now)) ∧ Hid (Below w1.heap.size w1 wr)) (fun _ i _ => n - (intOf i).toNat)
  case atStart => exact ⟨0, Nat.zero_le _, rfl, HO1, Below.refl _ _⟩
  case round =>
    obtain ⟨k, hk, rfl, HO, HB⟩ := hrel
    by_cases hlt : k < n
    · obtain ⟨b, off, rfl, hbs, hcell⟩ := hc (by omega)
      have m1 : EvAt wr b (off + k * 4) (P.getD k evZ) := (hcell k hlt).grow hbs HB.out
      have hltI : (k : Int) < (n : Int) := by omega
      have hl1 : (inL (P.take k) now).length ≤ 12 := by have := inL_len (P.take k) now; rw [List.length_take] at this; omega
      have hs := inL_succ P now k (by rw [← HN.out]; exact hlt)
      obtain ⟨y, hy⟩ : ∃ y, y = P.getD k evZ := ⟨_, rfl⟩
      rw [← hy] at m1 hs
      have HS : Hid (_) := hs
      obtain ⟨c0, c1, c2, c3⟩ := m1
      clear hy hs
      clear hcell hc
      by_cases hgt : y.c ≤ now
      · skip
        have HT : Hid (inL (P.take (k + 1)) now = inL (P.take k) now ++ [y.a]) := by show _ = _; rw [HS.out, if_pos hgt]
        obtain ⟨q, hq⟩ : ∃ q, q = (inL (P.take k) now).length := ⟨_, rfl⟩
        have HO' : Hid (wr.ownsRow w1.heap.size 2 1 u5 q ((inL (P.take k) now).map (.int .i64 ·))) := by rw [hq]; exact HO.out
        have HQ : Hid (q = (inL (P.take k) now).length ∧ q + 1 ≤ maxLen ∧ (q + 1) * 8 ≤ 140737488355328) := ⟨hq, by unfold maxLen; omega, by omega⟩
        have HBW : Hid (Below w1.heap.size w1 ((wr.alloc (.cells #[.int .i64 y.a, .int .i64 y.b, .int .i64 y.c, .string y.d] 32)).alloc (.cells #[.int .i64 y.a] 2))) := ((HB.out.alloc HB.out.size _).alloc (by have := HB.out.size; simp; omega) _)
        have HZ : Hid (w1.heap.size ≤ ((wr.alloc (.cells #[.int .i64 y.a, .int .i64 y.b, .int .i64 y.c, .string y.d] 32)).alloc (.cells #[.int .i64 y.a] 2)).heap.size) := HBW.out.size
        have HN : Hid (∀ j u, [Value.int .i64 y.a][j]? = some u → ((wr.alloc (.cells #[.int .i64 y.a, .int .i64 y.b, .int .i64 y.c, .string y.d] 32)).alloc (.cells #[.int .i64 y.a] 2)).cell? ((⟨wr.heap.size + 1, 0, none⟩ : Addr).add j) = some u) := by
          show ∀ j u, _
          have := World.news_of_block (heap_alloc_new (wr.alloc (.cells #[.int .i64 y.a, .int .i64 y.b, .int .i64 y.c, .string y.d] 32)) (.cells #[.int .i64 y.a] 2))
          simpa using this
        clear hq
        go_wp2_with (at_builtin; refine wpList_append_own _ rfl _ _ 39 rfl w1.heap.size 2 i0 (.int .i64 0) 1 8 Try.underlying39 hi hz0 hz1 hz2 rfl (by decide) _ q _ rfl ((HO'.out.alloc _).alloc _) ⟨wr.heap.size + 1, 0, none⟩ 1 1 [.int .i64 y.a] rfl rfl HN.out (by simp [Value.oneCell']) HQ.out.2.1 HQ.out.2.2 HZ.out ?_; intro v4 w4 hown4 hgrow4 hnil4)
        have HF : Hid (OwnI w4 w1.heap.size v4 (inL (P.take (k + 1)) now) ∧ Below w1.heap.size w1 w4) := by
          refine ⟨?_, HBW.out.grown hgrow4 HBW.out.size (fun x hx => (HO'.out.lt x hx).1)⟩
          unfold OwnI
          rw [HT.out, List.length_append, ← HQ.out.1, List.map_append]
          exact hown4
        clear hown4 hgrow4 hnil4
        go_wp2
        go_roundw
        case rel => exact ⟨k + 1, by omega, by go_num, HF.out.1, HF.out.2⟩
        case measure => simp [intOf]; omega
      · have hkd : decide (y.c ≤ now) = false := by simp; omega
        have HF : Hid (OwnI (wr.alloc (.cells #[.int .i64 y.a, .int .i64 y.b, .int .i64 y.c, .string y.d] 32)) w1.heap.size u5 (inL (P.take (k + 1)) now) ∧ Below w1.heap.size w1 (wr.alloc (.cells #[.int .i64 y.a, .int .i64 y.b, .int .i64 y.c, .string y.d] 32))) := by
          have e : inL (P.take (k + 1)) now = inL (P.take k) now := by rw [HS.out, if_neg hgt]
          rw [e]
          exact ⟨HO.out.below ((Below.refl _ _).alloc (Nat.le_refl _) _), HB.out.alloc HB.out.size _⟩
        clear hgt HO HB
        go_wp2
        go_roundw
        case rel => exact ⟨k + 1, by omega, by go_num, HF.out.1, HF.out.2⟩
        case measure => simp [intOf]; omega
    · have hke : k = n := by omega
      subst hke
      have HF : Hid (OwnI wr w1.heap.size u5 (alR D len now)) := by
        show OwnI _ _ _ _
        have := HO.out
        rw [HN.out, List.take_length, HR.out] at this
        exact this
      clear hc HO
      go_wp2
      go_ret
      exact ⟨_, rfl, HF.out.base HB1.out.size, HB1.out.trans (HB.out.mono HB1.out.size)⟩
end Go.Proofs.Ytnjlegphohmajaa
