/-
  The walk of the law FnSums. Conditions: the code reads as bytes, the two tables.
-/
import Derived.Test.YtggjldmlhlkepaaDoorKnown
import Derived.Test.YtggjldmlhlkepaaDoorDrawS
import Derived.BigQuiet
namespace Go.Proofs.YtggjldmlhlkepaaDoor
open Go.RowKit
set_option linter.unusedVariables false

theorem hexL_get : ∀ (l : List Int) (k : Nat), k < l.length → (hexL l).getD (2 * k) 0 = bt hexS (l.getD k 0 / 16).toNat ∧ (hexL l).getD (2 * k + 1) 0 = bt hexS (l.getD k 0 % 16).toNat
  | [], k, h => absurd h (by simp)
  | a :: l, 0, _ => ⟨rfl, rfl⟩
  | a :: l, k + 1, h => by
    have ih := hexL_get l k (by simpa using h)
    have e : hexL (a :: l) = bt hexS (a / 16).toNat :: bt hexS (a % 16).toNat :: hexL l := rfl
    rw [e, show 2 * (k + 1) = 2 * k + 1 + 1 by omega]
    simpa using ih

theorem hexL_range {l : List Int} (h : ∀ z ∈ l, 0 ≤ z ∧ z ≤ 255) : ∀ z ∈ hexL l, 0 ≤ z ∧ z ≤ 255 := by
  intro z hz
  unfold hexL at hz
  obtain ⟨b, hb, hz⟩ := List.mem_flatMap.1 hz
  have hr := h b hb
  have hs : hexS.size = 16 := rfl
  simp only [hx2, List.mem_cons, List.not_mem_nil, or_false] at hz
  rcases hz with rfl | rfl
  · exact bt_range (by omega)
  · exact bt_range (by omega)

theorem IsU8.below {w w' : World} {a : Option Addr} {len cap : Nat} {Z : Nat → Int} (h : IsU8 w a len cap Z) (hB : Below w.heap.size w w') : IsU8 w' a len cap Z := by
  obtain ⟨h1, h2, h3, h4⟩ := h
  refine ⟨h1, h2, h3, fun hp => ?_⟩
  obtain ⟨b, off, e, hb, hc⟩ := h4 hp
  exact ⟨b, off, e, by have := hB.size; omega, fun i hi => (hB.cell (p := ⟨b, off + i, none⟩) hb).trans (hc i hi)⟩

theorem known_abc (w : World) (hT : Tabs w) : Calls Tryd.prog 7 #[.string ⟨#[97, 98, 99]⟩] w fun e w' => e = .returned (.string ⟨#[98, 97, 55, 56, 49, 54, 98, 102, 56, 102, 48, 49, 99, 102, 101, 97, 52, 49, 52, 49, 52, 48, 100, 101, 53, 100, 97, 101, 50, 50, 50, 51, 98, 48, 48, 51, 54, 49, 97, 51, 57, 54, 49, 55, 55, 97, 57, 99, 98, 52, 49, 48, 102, 102, 54, 49, 102, 50, 48, 48, 49, 53, 97, 100]⟩) ∧ Below w.heap.size w w' := by
  have := implSumText_any ⟨#[97, 98, 99]⟩ (by show 3 ≤ 1048576; omega) w hT
  rw [knownA] at this
  exact this
theorem known_nil (w : World) (hT : Tabs w) : Calls Tryd.prog 7 #[.string ⟨#[]⟩] w fun e w' => e = .returned (.string ⟨#[101, 51, 98, 48, 99, 52, 52, 50, 57, 56, 102, 99, 49, 99, 49, 52, 57, 97, 102, 98, 102, 52, 99, 56, 57, 57, 54, 102, 98, 57, 50, 52, 50, 55, 97, 101, 52, 49, 101, 52, 54, 52, 57, 98, 57, 51, 52, 99, 97, 52, 57, 53, 57, 57, 49, 98, 55, 56, 53, 50, 98, 56, 53, 53]⟩) ∧ Below w.heap.size w w' := by
  have := implSumText_any ⟨#[]⟩ (by show 0 ≤ 1048576; omega) w hT
  rw [knownE] at this
  exact this

set_option maxRecDepth 10000 in
set_option maxHeartbeats 1600000 in
theorem sums_walk {a : Option Addr} {len cap : Nat} {Z : Nat → Int} (w : World) (hU : IsU8 w a len cap Z) (hT : Tabs w) :
    Calls Tryd.prog 3 #[.slice a len cap] w fun e w' => e = .returned (.bool true) ∧ Below w.heap.size w w' := by
  by_cases hbig : (1048576 : Int) < (len : Int)
  · go_enter Tryd.func3, Tryd.ntmps3
    go_wp2_with (go_at_call 4; refine (big_any _ _ _ _).mono ?_; rintro e w1 ⟨rfl, rfl⟩; rw [decide_eq_true hbig])
    go_ret
    exact ⟨rfl, Below.refl _ _⟩
  have HT : Hid (Tabs w) := hT
  clear hT
  go_enter Tryd.func3, Tryd.ntmps3
  go_wp2_with (first
    | (go_at_call 4; refine (big_any _ _ _ _).mono ?_; rintro e v1 ⟨rfl, hv⟩; rw [hv]; clear hv v1; rw [decide_eq_false hbig])
    | (go_at_call 5; refine (drawSum_any hU).mono ?_; rintro e w1 ⟨s, hs, rfl, hB1⟩))
  clear hbig hU
  have hsl : s.size ≤ 1048576 := by omega
  have HT1 : Hid (Tabs w1) := HT.out.below hB1
  refine (implSum_any s hsl kW s00 _ HT1.out.words HT1.out.start).mono ?_
  rintro e w2 ⟨rfl, hB2⟩
  have HT2 : Hid (Tabs w2) := HT1.out.below hB2
  have b2 := hB1.trans (hB2.mono hB1.size)
  go_wp2_with fail
  refine (implSumText_any s hsl _ HT2.out).mono ?_
  rintro e w3 ⟨rfl, hB3⟩
  have HT3 : Hid (Tabs w3) := HT2.out.below hB3
  have b3 := b2.trans (hB3.mono b2.size)
  have HS1 : Hid (∀ v : World, Calls Tryd.prog 8 #[.string s] v fun e w' => e = .returned (.string (strB (sumS kW s00 s).bytes)) ∧ Below v.heap.size v w') := fun v => specSum_any s hsl v
  have HS2 : Hid (∀ v : World, Calls Tryd.prog 9 #[.string s] v fun e w' => e = .returned (.string (sumT s)) ∧ Below v.heap.size v w') := fun v => specSumText_any s hsl v
  obtain ⟨l, hl⟩ : ∃ l, l = (sumS kW s00 s).bytes := ⟨_, rfl⟩
  have hll : l.length = 32 := by rw [hl]; exact bytes_len _
  have hlr : ∀ z ∈ l, 0 ≤ z ∧ z ≤ 255 := by rw [hl]; exact bytes_range _
  have hst : sumT s = strB (hexL l) := by rw [hl]; rfl
  rw [hst, ← hl]
  rw [← hl] at HS1
  rw [hst] at HS2
  have hds : (strB l).size = 32 := by rw [strB_size, hll]
  have hts : (strB (hexL l)).size = 64 := by rw [strB_size, hexL_len, hll]
  have HD : Hid (∀ k, k < 32 → bt (strB l) k = l.getD k 0) := fun k hk => bt_strB hlr (by omega)
  have HX : Hid (∀ k, k < 32 → bt (strB (hexL l)) (2 * k) = bt hexS (l.getD k 0 / 16).toNat ∧ bt (strB (hexL l)) (2 * k + 1) = bt hexS (l.getD k 0 % 16).toNat) := by
    intro k hk
    have hg := hexL_get l k (by omega)
    rw [bt_strB (hexL_range hlr) (by rw [hexL_len]; omega), bt_strB (hexL_range hlr) (by rw [hexL_len]; omega)]
    exact hg
  have HRG : Hid (∀ k, k < 32 → 0 ≤ l.getD k 0 ∧ l.getD k 0 ≤ 255) := fun k hk => getD_range hlr (by omega)
  clear hl hll hlr hst hsl hs
  generalize strB l = d at *
  generalize strB (hexL l) = t at *
  have hdd : (d.toList != d.toList) = false := by simp
  have htt : (t.toList != t.toList) = false := by simp
  go_wp2_with (first
    | (go_at_call 8; refine (HS1.out _).mono ?_; rintro e w4 ⟨rfl, hB4⟩)
    | (go_at_call 9; refine (HS2.out _).mono ?_; rintro e w5 ⟨rfl, hB5⟩))
  have b4 := b3.trans (hB4.mono b3.size)
  have b5 := b4.trans (hB5.mono b4.size)
  have HT5 : Hid (Tabs w5) := (HT3.out.below hB4).below hB5
  have HB5 : Hid (Below w.heap.size w w5) := b5
  clear b2 b3 b4 b5 hB1 hB2 hB3 hB4 hB5 HS1 HS2 hdd htt
  go_loopw [7] (fun i wr => ∃ (k n : Nat), k ≤ 32 ∧ i = .int .i64 k ∧ wr = w5.drewN n) (fun i _ => 32 - (intOf i).toNat)
  case atStart => exact ⟨0, 0, by omega, rfl, rfl⟩
  case round =>
    obtain ⟨k, n, hk, rfl, rfl⟩ := hrel
    by_cases hlt : k < 32
    · have hltI : (k : Int) < 32 := by omega
      obtain ⟨j1, hj1⟩ : ∃ j, j = 2 * k := ⟨_, rfl⟩
      obtain ⟨j2, hj2⟩ : ∃ j, j = 2 * k + 1 := ⟨_, rfl⟩
      have m1 : IntKind.i64.wrap (2 * (k : Int)) = (j1 : Int) := by rw [IntKind.wrap_i64]; omega
      have m2 : IntKind.i64.wrap ((j1 : Int) + 1) = (j2 : Int) := by rw [IntKind.wrap_i64]; omega
      have k0 : k < d.size := by omega
      have k1 : j1 < t.size := by omega
      have k2 : j2 < t.size := by omega
      have i0 : (k : Int) < (d.size : Int) := by omega
      have i1 : (j1 : Int) < (t.size : Int) := by omega
      have i2 : (j2 : Int) < (t.size : Int) := by omega
      have e0 := (bt_in k0).trans (HD.out k hlt)
      have e1 := (bt_in k1).trans (show bt t j1 = bt hexS (l.getD k 0 / 16).toNat by rw [hj1]; exact (HX.out k hlt).1)
      have e2 := (bt_in k2).trans (show bt t j2 = bt hexS (l.getD k 0 % 16).toNat by rw [hj2]; exact (HX.out k hlt).2)
      have hr := HRG.out k hlt
      generalize l.getD k 0 = b at e0 e1 e2 hr
      have t1 : b.tdiv 16 = b / 16 := Int.tdiv_eq_ediv_of_nonneg hr.1
      have t2 : b.tmod 16 = b % 16 := Int.tmod_eq_emod_of_nonneg hr.1
      have t3 : IntKind.u8.wrap (b / 16) = b / 16 := by rw [IntKind.wrap_u8]; omega
      have t4 : IntKind.u8.wrap (b % 16) = b % 16 := by rw [IntKind.wrap_u8]; omega
      have h1 := fun w => hex_index (x := b / 16) (by omega) (by omega) w
      have h2 := fun w => hex_index (x := b % 16) (by omega) (by omega) w
      generalize bt hexS (b / 16).toNat = X at e1 h1
      generalize bt hexS (b % 16).toNat = Y at e2 h2
      have x1 : (X != X) = false := by simp
      have x2 : (Y != Y) = false := by simp
      have HJ : Hid (j1 = 2 * k ∧ j2 = 2 * k + 1) := ⟨hj1, hj2⟩
      clear hj1 hj2
      go_wp2
      go_quiet (fail)
      go_wp2
      exact ⟨⟨k + 1, n + nq, by omega, by go_num, rfl⟩, by simp [intOf]; omega⟩
    · have hk32 : k = 32 := by omega
      subst hk32
      have hnl : ¬ ((32 : Nat) : Int) < 32 := by omega
      have hBn : Below w5.heap.size w5 (w5.drewN n) := below_drewN (Below.refl _ _) n
      have HT6 : Hid (Tabs (w5.drewN n)) := HT5.out.below hBn
      have HB6 : Hid (Below w.heap.size w (w5.drewN n)) := below_drewN HB5.out n
      have eA : ((ByteArray.mk #[98, 97, 55, 56, 49, 54, 98, 102, 56, 102, 48, 49, 99, 102, 101, 97, 52, 49, 52, 49, 52, 48, 100, 101, 53, 100, 97, 101, 50, 50, 50, 51, 98, 48, 48, 51, 54, 49, 97, 51, 57, 54, 49, 55, 55, 97, 57, 99, 98, 52, 49, 48, 102, 102, 54, 49, 102, 50, 48, 48, 49, 53, 97, 100]).toList == (ByteArray.mk #[98, 97, 55, 56, 49, 54, 98, 102, 56, 102, 48, 49, 99, 102, 101, 97, 52, 49, 52, 49, 52, 48, 100, 101, 53, 100, 97, 101, 50, 50, 50, 51, 98, 48, 48, 51, 54, 49, 97, 51, 57, 54, 49, 55, 55, 97, 57, 99, 98, 52, 49, 48, 102, 102, 54, 49, 102, 50, 48, 48, 49, 53, 97, 100]).toList) = true := by simp
      have eE : ((ByteArray.mk #[101, 51, 98, 48, 99, 52, 52, 50, 57, 56, 102, 99, 49, 99, 49, 52, 57, 97, 102, 98, 102, 52, 99, 56, 57, 57, 54, 102, 98, 57, 50, 52, 50, 55, 97, 101, 52, 49, 101, 52, 54, 52, 57, 98, 57, 51, 52, 99, 97, 52, 57, 53, 57, 57, 49, 98, 55, 56, 53, 50, 98, 56, 53, 53]).toList == (ByteArray.mk #[101, 51, 98, 48, 99, 52, 52, 50, 57, 56, 102, 99, 49, 99, 49, 52, 57, 97, 102, 98, 102, 52, 99, 56, 57, 57, 54, 102, 98, 57, 50, 52, 50, 55, 97, 101, 52, 49, 101, 52, 54, 52, 57, 98, 57, 51, 52, 99, 97, 52, 57, 53, 57, 57, 49, 98, 55, 56, 53, 50, 98, 56, 53, 53]).toList) = true := by simp
      clear hBn
      go_wp2_with fail
      refine (known_abc _ HT6.out).mono ?_
      rintro e w7 ⟨rfl, hB7⟩
      have HT7 : Hid (Tabs w7) := HT6.out.below hB7
      have HB7 : Hid (Below w.heap.size w w7) := HB6.out.trans (hB7.mono HB6.out.size)
      clear hB7
      go_wp2_with fail
      refine (known_nil _ HT7.out).mono ?_
      rintro e w8 ⟨rfl, hB8⟩
      go_wp2
      go_ret
      exact ⟨rfl, HB7.out.trans (hB8.mono HB7.out.size)⟩
end Go.Proofs.YtggjldmlhlkepaaDoor
