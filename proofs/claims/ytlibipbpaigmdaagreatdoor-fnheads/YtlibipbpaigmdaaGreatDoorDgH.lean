/-
  The drawing of FnBehind: a dag and ids. Condition: the code reads as bytes.
  The law FnBehind returns true at every code. Condition: the code reads as bytes, the tables lie.
-/
import Derived.Test.YtlibipbpaigmdaaGreatDoorDgG
import Derived.Test.YtlibipbpaigmdaaGreatDoorDgB
namespace Go.Proofs.YtlibipbpaigmdaaGreatDoor
open Go.RowKit
set_option linter.unusedVariables false
section
variable {W w0 : World} {a : Option Addr} {len cap R : Nat} {Z : Nat → Int}
theorem MS.idsOk {w : World} {v : Value} {T : List (List UInt8)} (h : MS W w0 a len cap R v T w) {m : Nat} (hm : T.length ≤ m) : ∃ u uc S, v = .slice u T.length uc ∧ IsStrs w u T.length uc S ∧ (∀ j, j < T.length → (S j).size ≤ 64) := by
  obtain ⟨u, c, rfl, hI, _⟩ := h.own.strs
  refine ⟨u, c, atL T, rfl, hI, fun j hj => ?_⟩
  have hm : (atL T j).toList ∈ T := by rw [atL_list, List.getD_eq_getElem?_getD, List.getElem?_eq_getElem hj]; exact List.getElem_mem hj
  have := h.short _ hm
  rw [ByteArray.toList_eq] at this
  simpa using this

set_option maxRecDepth 20000 in
set_option maxHeartbeats 16000000 in
theorem drawBehind_any (w : World) (hU : IsU8 w a len cap Z) :
    Calls Tryz.prog 47 #[.slice a len cap] w fun e w' => ∃ (g gc n : Nat) (D : Nat → Nd) (u : Option Addr) (m uc : Nat) (S : Nat → ByteArray), e = .returned (.tuple #[.slice (some ⟨g, 0, none⟩) n gc, .slice u m uc]) ∧ IsNds w' (some ⟨g, 0, none⟩) n gc D ∧ Fine D n ∧ n ≤ 30 ∧ IsStrs w' u m uc S ∧ m ≤ 9 ∧ (∀ j, j < m → (S j).size ≤ 64) ∧ Below w.heap.size w w' := by
  have HU := (show Hid _ from hU)
  obtain ⟨i0, hi, hz0, hz1, hz2⟩ := info_parts info9
  clear hU
  go_enter Tryz.func47, Tryz.ntmps47
  go_wp2_with fail
  refine (open_any a len cap w).mono ?_
  rintro e w1 ⟨rfl, hD1⟩
  have HD1 := (show Hid _ from hD1)
  clear hD1
  go_wp2_with fail
  refine (dag_any HU.out 8 (by omega) w1 HD1.out).mono ?_
  rintro e w2 ⟨g, gc, L, n, hn, rfl, hs2⟩
  have HS2 : Hid (DS w w1 a len cap w.heap.size (.slice (some ⟨g, 0, none⟩) n gc) L w2) := hs2
  have HO : Hid (∀ w', Mut w.heap.size w2 w' → OwnD w' w1.heap.size (.slice (some ⟨g, 0, none⟩) L.length gc) L) := fun w' hM => by have := hs2.keep hM; rw [hn] at this; exact this
  have HF : Hid (Few L) := hs2.few
  have hgc : L.length ≤ gc ∧ gc ≤ 9223372036854775807 := by
    have := (hs2.own.is hn)
    rw [← hn]
    exact ⟨this.1, this.2.1⟩
  obtain ⟨hgc1, hgc2⟩ := hgc
  have hlt2 : w.heap.size < w2.heap.size := Nat.lt_of_lt_of_le hs2.lt hs2.mt0.size
  have hms : MS w w2 a len cap w.heap.size (.slice (some ⟨w2.heap.size, 0, none⟩) 0 0) [] (w2.alloc (.cells #[] 9)) := ⟨hs2.draw.alloc _, (Mut.refl _ w2).alloc _, World.ownsRow_made w2 #[] 0 (Nat.le_refl _) (by decide) rfl, fun x hx => (by cases hx), hlt2⟩
  have HS0 : Hid (MS w w2 a len cap w.heap.size (.slice (some ⟨w2.heap.size, 0, none⟩) 0 0) [] (w2.alloc (.cells #[] 9))) := hms
  have HNL : Hid (n = L.length) := hn
  subst hn
  clear hs2 hms hlt2
  go_wp2_with fail
  refine (below_any HU.out 3 (by omega) (by omega) _ HS0.out.draw).mono ?_
  rintro e w3 ⟨x1, hx0, hx1, rfl, hD1, hM1⟩
  have HS1 : Hid (MS w w2 a len cap w.heap.size (.slice (some ⟨w2.heap.size, 0, none⟩) 0 0) [] w3) := HS0.out.step hD1 hM1
  obtain ⟨k1, hk1⟩ : ∃ k : Nat, x1 = k := ⟨x1.toNat, by omega⟩
  subst hk1
  have HK1 : Hid (k1 ≤ 2) := by show k1 ≤ 2; omega
  clear hD1 hM1 HS0 hx0 hx1
  go_wp2_with fail
  go_loopw [6, 7] (fun u i wr => ∃ (k : Nat) (v : Value) (T : List (List UInt8)), k + T.length ≤ 2 ∧ i = .int .i64 k ∧ v = u ∧ Hid (MS w w2 a len cap w.heap.size v T wr)) (fun _ i _ => (Go.RowKit.intOf i).toNat)
  case atStart => exact ⟨k1, _, [], HK1.out, rfl, rfl, HS1⟩
  case round =>
    obtain ⟨k, v, T, hk, rfl, rfl, HSS⟩ := hrel
    clear HS1 HK1
    by_cases hgo : 0 < k ∧ 0 < L.length
    · obtain ⟨hk0, hl0⟩ := hgo
      have hk0I : (0 : Int) < (k : Int) := by omega
      have hl0I : (0 : Int) < (L.length : Int) := by omega
      go_wp2_with fail
      refine (belowN_any HU.out L.length hl0 (by have := HF.out.1; omega) _ HSS.out.draw).mono ?_
      rintro e w4 ⟨y, hy, rfl, hD2, hM2⟩
      have hs4 := HSS.out.step hD2 hM2
      have HS4 : Hid (MS w w2 a len cap w.heap.size v T w4) := hs4
      have hyI : (y : Int) < (L.length : Int) := by omega
      obtain ⟨⟨c0, c1, c2, c3, c4, c5, _⟩, hI⟩ := ownD_at (HO.out w4 hs4.mt0) hy
      simp only [Nat.zero_add] at c0 c1 c2 c3 c4 c5
      have hf := HF.out.fine y hy
      have HC : Hid (Calls Tryz.prog 58 #[.agg #[.int .i64 (gN L y).a, .int .i64 (gN L y).s, .int .i64 (gN L y).k, .string (gN L y).key, .string (gN L y).text, .slice (gN L y).u (gN L y).n (gN L y).cap]] w4 fun e w' => e = .returned (.string (ids (gN L) y)) ∧ Below w4.heap.size w4 w') := specIdOf_any _ _ _ _ _ _ _ _ (gN L y).S w4 hI hf.2.2 hf.1 hf.2.1
      obtain ⟨id, hid⟩ : ∃ id, id = ids (gN L) y := ⟨_, rfl⟩
      have HID : Hid (id.size ≤ 64) := by show id.size ≤ 64; rw [hid]; exact ids_size _ _
      rw [← hid] at HC
      have hc1 : (T.length + 1 : Nat) ≤ maxLen := by unfold maxLen; omega
      have hc2 : (T.length + 1) * 16 ≤ 140737488355328 := by omega
      have hso : ∀ x ∈ [Value.string id], x.oneCell' = true := by simp [Value.oneCell']
      clear hD2 hM2 hs4 hI hf hid HSS
      go_wp2_with fail
      refine HC.out.mono ?_
      rintro e w5 ⟨rfl, hB5⟩
      have HS5 : Hid (MS w w2 a len cap w.heap.size v T (w5.alloc (.cells #[.string id] 9))) := (HS4.out.below hB5).below ((Below.refl _ _).alloc (Nat.le_refl _) _)
      clear hB5 HC HS4
      go_wp2_with (at_builtin; refine wpList_append_own _ rfl _ _ 25 rfl w2.heap.size 9 i0 (.string ⟨#[]⟩) 1 16 Tryz.underlying25 hi hz0 hz1 hz2 rfl (by decide) _ _ _ rfl HS5.out.own ⟨w5.heap.size, 0, none⟩ 1 1 [.string id] rfl rfl (World.news_of_block (heap_alloc_new _ _)) hso hc1 hc2 HS5.out.mt0.size ?_; intro v' w6 hown hgrow _)
      go_roundw
      case rel => exact ⟨k - 1, v', T ++ [id.toList], by simp; omega, by go_num, rfl, HS5.out.grown hown hgrow HID.out⟩
      case measure => simp [Go.RowKit.intOf]; omega
    · have hfin : (¬ (0 : Int) < (k : Int)) ∨ ((0 : Int) < (k : Int) ∧ ¬ (0 : Int) < (L.length : Int)) := by omega
      have HT3 : Hid (T.length ≤ 2) := by show T.length ≤ 2; omega
      have hcT1 : (T.length + 1 : Nat) ≤ maxLen := by unfold maxLen; omega
      have hcT2 : (T.length + 1) * 16 ≤ 140737488355328 := by omega
      clear hk hgo
      rcases hfin with hk0I | ⟨hk0I, hl0I⟩
      all_goals
        go_wp2_with fail
        refine (once_any HU.out 12 (by omega) (by omega) _ HSS.out.draw).mono ?_
        rintro e w9 ⟨c9, rfl, hD9, hM9⟩
        have HS9 : Hid (MS w w2 a len cap w.heap.size v T w9) := HSS.out.step hD9 hM9
        clear hD9 hM9 HSS
        cases c9 with
        | false =>
          obtain ⟨u8, c8, S8, rfl, hI8, hs8⟩ := HS9.out.idsOk (Nat.le_refl _)
          go_wp2_with fail
          go_ret2
          exact ⟨g, gc, _, gN L, u8, _, c8, S8, rfl, (HO.out w9 HS9.out.mt0).is rfl, HF.out.fine, HF.out.1, hI8, by have := HT3.out; omega, hs8, HS9.out.draw.bel⟩
        | true =>
          have hso : ∀ x ∈ [Value.string ⟨#[110, 111, 110, 101]⟩], x.oneCell' = true := by simp [Value.oneCell']
          have HS3 : Hid (MS w w2 a len cap w.heap.size v T (w9.alloc (.cells #[.string ⟨#[110, 111, 110, 101]⟩] 9))) := HS9.out.below ((Below.refl _ _).alloc (Nat.le_refl _) _)
          clear HS9
          go_wp2_with (at_builtin; refine wpList_append_own _ rfl _ _ 25 rfl w2.heap.size 9 i0 (.string ⟨#[]⟩) 1 16 Tryz.underlying25 hi hz0 hz1 hz2 rfl (by decide) _ _ _ rfl HS3.out.own ⟨w9.heap.size, 0, none⟩ 1 1 [.string ⟨#[110, 111, 110, 101]⟩] rfl rfl (World.news_of_block (heap_alloc_new _ _)) hso hcT1 hcT2 HS3.out.mt0.size ?_; intro v' w11 hown hgrow _)
          have HS8 := HS3.out.grown hown hgrow (by decide)
          obtain ⟨u8, c8, S8, rfl, hI8, hs8⟩ := HS8.idsOk (Nat.le_refl _)
          go_ret2
          exact ⟨g, gc, _, gN L, u8, _, c8, S8, rfl, (HO.out w11 HS8.mt0).is rfl, HF.out.fine, HF.out.1, hI8, by have := HT3.out; simp; omega, hs8, HS8.draw.bel⟩
end
end Go.Proofs.YtlibipbpaigmdaaGreatDoor

namespace Go.Proofs.YtlibipbpaigmdaaGreatDoor
open Go.RowKit
set_option linter.unusedVariables false

theorem at_mem {K : List (List UInt8)} {j : Nat} (h : j < K.length) : (atL K j).toList ∈ K := by
  rw [atL_list, List.getD_eq_getElem?_getD, List.getElem?_eq_getElem h]
  exact List.getElem_mem h
theorem mem_at {K : List (List UInt8)} {x : List UInt8} (h : x ∈ K) : ∃ j, j < K.length ∧ (atL K j).toList = x := by
  obtain ⟨j, hj, rfl⟩ := List.getElem_of_mem h
  exact ⟨j, hj, by rw [atL_list, List.getD_eq_getElem?_getD, List.getElem?_eq_getElem hj]; rfl⟩
theorem hasB_of {K : List (List UInt8)} {S : Nat → ByteArray} {n : Nat} (h : ∀ j, j < n → (S j).toList ∈ K) : hasB (atL K) K.length S n = true := by
  unfold hasB
  exact allB_true fun j hj => by rw [(out_mem K (S j)).2 (h j hj)]; rfl
theorem bid_size {D : Nat → Nd} {n : Nat} {x : List UInt8} (h : IsId D n x) : x.length ≤ 64 := by
  obtain ⟨i, _, rfl⟩ := h
  have := ids_size D i
  rw [ByteArray.toList_eq]
  simpa using this

/-- K is all that stands behind the first m of S -/
structure BehK (D : Nat → Nd) (n : Nat) (S : Nat → ByteArray) (m : Nat) (K : List (List UInt8)) : Prop where
  up : Up K
  mem : ∀ x, x ∈ K ↔ Reach D n S m x
  isId : ∀ x, x ∈ K → IsId D n x
  len : K.length ≤ n
theorem BehK.self {D : Nat → Nd} {n : Nat} {S : Nat → ByteArray} {m : Nat} {K : List (List UInt8)} (h : BehK D n S m K) (x : List UInt8) : Reach D n (atL K) K.length x ↔ x ∈ K := by
  constructor
  · intro hx
    refine hx (· ∈ K) (fun j i hj hi e => at_mem hj) (fun i j hi ih hj => ?_)
    rw [h.mem] at ih ⊢
    exact .step i j hi ih hj
  · intro hx
    obtain ⟨j, hj, rfl⟩ := mem_at hx
    obtain ⟨i, hi, e⟩ := h.isId _ hx
    exact .base j i hj hi e
theorem BehK.tail {D : Nat → Nd} {n : Nat} {S : Nat → ByteArray} {m : Nat} {K : List (List UInt8)} (h : BehK D n S m K) {x : List UInt8} (hx : Reach D n (fun j => S (j + 1)) (m - 1) x) : x ∈ K := by
  rw [h.mem]
  exact hx (Reach D n S m) (fun j i hj hi e => .base (j + 1) i (by omega) hi e) (fun i j hi ih hj => .step i j hi ih hj)
theorem strs_tail {w : World} {b off m uc : Nat} {S : Nat → ByteArray} (h : IsStrs w (some ⟨b, off, none⟩) m uc S) (hm : 1 ≤ m) : IsStrs w (if uc = 1 then some ⟨b, off, none⟩ else some ⟨b, off + 1, none⟩) (m - 1) (uc - 1) (fun j => S (j + 1)) := by
  obtain ⟨h1, h2, h3⟩ := h
  obtain ⟨b', o', e, hb, hc⟩ := h3 (by omega)
  cases e
  refine ⟨by omega, by omega, fun hp => ?_⟩
  rw [if_neg (by omega)]
  exact ⟨b, off + 1, rfl, hb, fun i hi => by rw [show off + 1 + i = off + (i + 1) by omega]; exact hc (i + 1) (by omega)⟩

set_option maxRecDepth 20000 in
set_option maxHeartbeats 4000000 in
theorem fnBehind_walk {a : Option Addr} {len cap : Nat} {Z : Nat → Int} (W : World) (hU : IsU8 W a len cap Z) (hP : AllT W) :
    Calls Tryz.prog 8 #[.slice a len cap] W fun e w' => e = .returned (.bool true) ∧ Below W.heap.size W w' := by
  have HU := (show Hid _ from hU)
  have HP := (show Hid _ from hP)
  obtain ⟨lo, hlo⟩ := isLo_ex
  have HLO : Hid (IsLo lo) := hlo
  clear hU hP hlo
  obtain ⟨big, hbig⟩ : ∃ b, b = decide ((1048576 : Int) < (len : Int)) := ⟨_, rfl⟩
  have HBig : Hid (Calls Tryz.prog 34 #[.slice a len cap] W fun e w' => e = .returned (.bool big) ∧ w' = W) := by rw [hbig]; exact big_any a len cap W
  clear hbig
  go_enter Tryz.func8, Tryz.ntmps8
  go_wp2_with fail
  refine HBig.out.mono ?_
  rintro e w0 ⟨rfl, hw0⟩
  rw [hw0]
  clear hw0 w0 HBig
  cases big with
  | true =>
    go_wp2
    go_ret
    exact ⟨rfl, Below.refl _ _⟩
  | false =>
  go_wp2_with fail
  refine (drawBehind_any W HU.out).mono ?_
  rintro e w1 ⟨g, gc, n, D, u, m, uc, S, rfl, hI, hF, hn, hS, hm, hs, b1⟩
  have HI : Hid (IsNds w1 (some ⟨g, 0, none⟩) n gc D) := hI
  have HF : Hid (Fine D n) := hF
  have HS : Hid (IsStrs w1 u m uc S) := hS
  have HB1 : Hid (Below W.heap.size W w1) := b1
  have HM : Hid (m ≤ 9 ∧ n ≤ 30) := ⟨hm, hn⟩
  have HSz : Hid (∀ j, j < m → (S j).size ≤ 64) := hs
  have HIm : Hid (∀ w', Below w1.heap.size w1 w' → ∀ (u : Option Addr) (m uc : Nat) (S : Nat → ByteArray), IsStrs w' u m uc S → (∀ j, j < m → (S j).size ≤ 64) → Calls Tryz.prog 48 #[.slice (some ⟨g, 0, none⟩) n gc, .slice u m uc] w' fun e w'' => ∃ v L, e = .returned v ∧ OwnL w'' w'.heap.size v L ∧ Up L ∧ (∀ x, x ∈ L ↔ dagB D n = true ∧ m ≤ 30 ∧ Reach D n S m x) ∧ Below w'.heap.size w' w'') := fun w' hB u m uc S hS hs =>
    implBehind_any _ n gc D u m uc S w' (hI.below hB) hF hS (fun j hj => Nat.le_trans (hs j hj) (by decide)) (HP.out.below (b1.trans (hB.mono b1.size)))
  have HSp : Hid (∀ w', Below w1.heap.size w1 w' → Calls Tryz.prog 49 #[.slice (some ⟨g, 0, none⟩) n gc, .slice u m uc] w' fun e w'' => ∃ v, e = .returned v ∧ OwnL w'' w'.heap.size v (behR lo D n S m) ∧ Below w'.heap.size w' w'') := fun w' hB =>
    specBehind_R lo HLO.out _ n gc D u m uc S w' (hI.below hB) hF (hS.below hB)
  have hgc1 := hI.1
  have hgc2 := hI.2.1
  have huc1 := hS.1
  have huc2 := hS.2.1
  clear hI hF hS b1 hn hs hm
  go_wp2_with fail
  refine (HIm.out w1 (Below.refl _ _) u m uc S HS.out HSz.out).mono ?_
  rintro e w2 ⟨v2, K, rfl, o2, hKu, hKm, hB2⟩
  have HKE : Hid (behR lo D n S m = K) := by show _ = _; unfold behR; exact (listOf_is HLO.out hKu hKm).symm
  have HKM : Hid (∀ x, x ∈ K ↔ dagB D n = true ∧ m ≤ 30 ∧ Reach D n S m x) := hKm
  have HKU : Hid (Up K) := hKu
  rw [HKE.out] at HSp
  obtain ⟨a2, c2, rfl, i2, _⟩ := o2.strs
  obtain ⟨kl, hkl⟩ : ∃ kl, kl = K.length := ⟨_, rfl⟩
  rw [← hkl] at i2 ⊢
  have HI2 : Hid (IsStrs w2 a2 kl c2 (atL K)) := i2
  have HB2 : Hid (Below w1.heap.size w1 w2) := hB2
  have HKL : Hid (kl = K.length) := hkl
  clear o2 i2 hB2 hkl hKu hKm
  go_wp2_with fail
  refine (HSp.out w2 HB2.out).mono ?_
  rintro e w3 ⟨v3, rfl, o3, hB3⟩
  obtain ⟨a3, c3, rfl, i3, _⟩ := o3.strs
  rw [← HKL.out] at i3 ⊢
  have HI3 : Hid (IsStrs w3 a3 kl c3 (atL K)) := i3
  have HB3 : Hid (Below w1.heap.size w1 w3) := HB2.out.trans (hB3.mono HB2.out.size)
  have HI23 : Hid (IsStrs w3 a2 kl c2 (atL K)) := HI2.out.below hB3
  clear o3 i3 hB3
  go_wp2_with fail
  refine (sameL_any _ _ _ _ kl K w3 HI23.out HI3.out).mono ?_
  rintro e w4 ⟨rfl, hB4⟩
  have HB4 : Hid (Below w1.heap.size w1 w4) := HB3.out.trans (hB4.mono HB3.out.size)
  have HI4 : Hid (IsStrs w4 a2 kl c2 (atL K)) := HI23.out.below hB4
  have HD4 : Hid (Calls Tryz.prog 46 #[.slice (some ⟨g, 0, none⟩) n gc] w4 fun e w' => e = .returned (.bool (dagB D n)) ∧ Below w4.heap.size w4 w') := specDagOk_any _ n gc D w4 (HI.out.below HB4.out) HF.out
  clear hB4
  go_wp2_with fail
  refine HD4.out.mono ?_
  rintro e w5 ⟨rfl, hB5⟩
  have HB5 : Hid (Below w1.heap.size w1 w5) := HB4.out.trans (hB5.mono HB4.out.size)
  have HI5 : Hid (IsStrs w5 a2 kl c2 (atL K)) := HI4.out.below hB5
  clear hB5 HD4
  cases hq : dagB D n with
  | false =>
    go_wp2_with fail
    refine (HSp.out w5 HB5.out).mono ?_
    rintro e w6 ⟨v6, rfl, o6, hB6⟩
    obtain ⟨a6, c6, rfl, i6, _⟩ := o6.strs
    rw [← HKL.out] at i6 ⊢
    have HI6 : Hid (IsStrs w6 a6 kl c6 (atL K)) := i6
    have HI56 : Hid (IsStrs w6 a2 kl c2 (atL K)) := HI5.out.below hB6
    have HB6 : Hid (Below w1.heap.size w1 w6) := HB5.out.trans (hB6.mono HB5.out.size)
    clear o6 i6 hB6
    go_wp2_with fail
    refine (sameL_any _ _ _ _ kl K w6 HI56.out HI6.out).mono ?_
    rintro e w7 ⟨rfl, hB7⟩
    go_wp2
    go_ret
    exact ⟨rfl, HB1.out.trans ((HB6.out.trans (hB7.mono HB6.out.size)).mono HB1.out.size)⟩
  | true =>
    have HKK : Hid (BehK D n S m K) := by
      have hm30 := HM.out.1
      have hmem : ∀ x, x ∈ K ↔ Reach D n S m x := fun x => by
        rw [HKM.out x]
        exact ⟨fun h => h.2.2, fun h => ⟨hq, by omega, h⟩⟩
      have hid : ∀ x, x ∈ K → IsId D n x := fun x hx => ((hmem x).1 hx).isId hq
      exact ⟨HKU.out, hmem, hid, up_len HKU.out hid⟩
    have HQ : Hid (dagB D n = true) := hq
    clear hq
    go_wp2_with fail
    refine (lawIds_any _ n gc D w5 (HI.out.below HB5.out) HF.out (by have := HM.out.2; omega)).mono ?_
    rintro e w6 ⟨ga, ac, rfl, ia, hB6⟩
    have HIA : Hid (IsStrs w6 ga n ac (ids D)) := ia
    have HI6 : Hid (IsStrs w6 a2 kl c2 (atL K)) := HI5.out.below hB6
    have HB6 : Hid (Below w1.heap.size w1 w6) := HB5.out.trans (hB6.mono HB5.out.size)
    have HS6 : Hid (IsStrs w6 u m uc S) := HS.out.below HB6.out
    have HN6 : Hid (IsNds w6 (some ⟨g, 0, none⟩) n gc D) := HI.out.below HB6.out
    have hac1 := ia.1
    have hac2 := ia.2.1
    clear ia hB6
    go_wp2
    go_loopw [7] (fun i wr => ∃ (k : Nat), k ≤ n ∧ i = .int .i64 k ∧ wr = w6) (fun i _ => n - (Go.RowKit.intOf i).toNat)
    case atStart => exact ⟨0, Nat.zero_le _, rfl, rfl⟩
    case round =>
      obtain ⟨k, hk, rfl, rfl⟩ := hrel
      by_cases hlt : k < n
      · have hltI : (k : Int) < (n : Int) := by omega
        obtain ⟨ub, uo, hu, _, hucell⟩ := HIA.out.2.2 (by omega)
        have d1 := hucell k hlt
        obtain ⟨gb, go, hg, _, hgcell⟩ := HN6.out.2.2 (by omega)
        cases hg
        obtain ⟨c0, c1, c2', c3', c4, c5, ci⟩ := hgcell k hlt
        simp only [Nat.zero_add] at c0 c1 c2' c3' c4 c5
        have HUp : Hid (IsStrs wr (D k).u (D k).n (D k).cap (D k).S) := ci
        obtain ⟨c, hc⟩ : ∃ c, c = !(outB (atL K) kl (ids D k)) := ⟨_, rfl⟩
        have HH1 : Hid (Calls Tryz.prog 38 #[.slice a2 kl c2, .string (ids D k)] wr fun e w' => e = .returned (.bool c) ∧ w' = wr) := by rw [hc]; exact lawHas_any a2 kl c2 (atL K) (ids D k) wr HI6.out
        obtain ⟨c', hc'⟩ : ∃ c, c = !(outB S m (ids D k)) := ⟨_, rfl⟩
        have HH2 : Hid (Calls Tryz.prog 38 #[.slice u m uc, .string (ids D k)] wr fun e w' => e = .returned (.bool c') ∧ w' = wr) := by rw [hc']; exact lawHas_any u m uc S (ids D k) wr HS6.out
        have hcc : c' = true → c = true := fun h => by
          rw [hc'] at h
          have h1 : outB S m (ids D k) = false := by simpa using h
          obtain ⟨j, hj, e⟩ := (outB_iff S _ m).1 h1
          have h2 : (ids D k).toList ∈ K := by
            rw [HKK.out.mem, ← e]
            exact .base j k hj hlt e.symm
          rw [hc, HKL.out, (out_mem K _).2 h2]
          rfl
        have HW1 : Hid (c = true → Calls Tryz.prog 39 #[.slice (D k).u (D k).n (D k).cap, .slice a2 kl c2] wr fun e w' => e = .returned (.bool true) ∧ w' = wr) := fun h => by
          have h1 : outB (atL K) kl (ids D k) = false := by rw [hc] at h; simpa using h
          rw [HKL.out] at h1
          have h2 := (out_mem K _).1 h1
          have := lawWithin_any _ _ _ _ a2 kl c2 (atL K) wr HUp.out HI6.out
          rw [HKL.out, hasB_of (fun j hj => by rw [HKK.out.mem] at h2 ⊢; exact .step k j hlt h2 hj)] at this
          rw [HKL.out]
          exact this
        subst hu
        clear hucell hgcell ci hc hc'
        cases c with
        | true =>
          clear hcc
          go_wp2_with fail
          refine HH1.out.mono ?_
          rintro e w7 ⟨rfl, hw7⟩
          rw [hw7]
          clear hw7 w7
          go_wp2_with fail
          refine (HW1.out (by first | rfl | trivial)).mono ?_
          rintro e w7 ⟨rfl, hw7⟩
          rw [hw7]
          clear hw7 w7
          go_wp2_with fail
          refine HH2.out.mono ?_
          rintro e w7 ⟨rfl, hw7⟩
          rw [hw7]
          clear hw7 w7
          cases c' with
          | true =>
            go_wp2_with fail
            refine HH1.out.mono ?_
            rintro e w7 ⟨rfl, hw7⟩
            rw [hw7]
            clear hw7 w7
            go_wp2
            go_roundw
            case rel => exact ⟨k + 1, by omega, by go_num, by first | rfl | trivial⟩
            case measure => simp [Go.RowKit.intOf]; omega
          | false =>
            go_wp2
            go_roundw
            case rel => exact ⟨k + 1, by omega, by go_num, by first | rfl | trivial⟩
            case measure => simp [Go.RowKit.intOf]; omega
        | false =>
          have hcf : c' = false := by
            cases c' with
            | true => exact absurd (hcc rfl) (by decide)
            | false => rfl
          subst hcf
          clear hcc
          go_wp2_with fail
          refine HH1.out.mono ?_
          rintro e w7 ⟨rfl, hw7⟩
          rw [hw7]
          clear hw7 w7
          go_wp2_with fail
          refine HH2.out.mono ?_
          rintro e w7 ⟨rfl, hw7⟩
          rw [hw7]
          clear hw7 w7
          go_wp2
          go_roundw
          case rel => exact ⟨k + 1, by omega, by go_num, by first | rfl | trivial⟩
          case measure => simp [Go.RowKit.intOf]; omega
      · have hke : k = n := by omega
        subst hke
        have HW : Hid (Calls Tryz.prog 39 #[.slice a2 kl c2, .slice ga k ac] wr fun e w' => e = .returned (.bool true) ∧ w' = wr) := by
          have := lawWithin_any a2 kl c2 (atL K) ga k ac (ids D) wr HI6.out HIA.out
          rw [show hasB (ids D) k (atL K) kl = true from by
            unfold hasB
            refine allB_true fun j hj => ?_
            obtain ⟨i, hi, e⟩ := HKK.out.isId _ (at_mem (K := K) (j := j) (by rw [← HKL.out]; exact hj))
            rw [(outB_iff (ids D) _ k).2 ⟨i, hi, e⟩]
            rfl] at this
          exact this
        have HSK : Hid (∀ j, j < kl → (atL K j).size ≤ 64) := fun j hj => by
          have := bid_size (HKK.out.isId _ (at_mem (K := K) (j := j) (by rw [← HKL.out]; exact hj)))
          rw [ByteArray.toList_eq] at this
          simpa using this
        have HIm2 : Hid (Calls Tryz.prog 48 #[.slice (some ⟨g, 0, none⟩) k gc, .slice a2 kl c2] wr fun e w'' => ∃ v L, e = .returned v ∧ OwnL w'' wr.heap.size v L ∧ Up L ∧ (∀ x, x ∈ L ↔ dagB D k = true ∧ kl ≤ 30 ∧ Reach D k (atL K) (kl) x) ∧ Below wr.heap.size wr w'') := HIm.out wr HB6.out a2 kl c2 (atL K) HI6.out HSK.out
        go_wp2_with fail
        refine HW.out.mono ?_
        rintro e w7 ⟨rfl, hw7⟩
        rw [hw7]
        clear hw7 w7
        go_wp2_with fail
        refine HIm2.out.mono ?_
        rintro e w8 ⟨v8, K8, rfl, o8, hU8, hM8, hB8⟩
        have hK8 : K8 = K := up_unique hU8 HKU.out (fun x => by
          rw [hM8 x, HKL.out, HKK.out.self x]
          exact ⟨fun h => h.2.2, fun h => ⟨HQ.out, by have := HKK.out.len; have := HM.out.2; omega, h⟩⟩)
        subst hK8
        obtain ⟨a8, c8, rfl, i8, _⟩ := o8.strs
        rw [← HKL.out] at i8 ⊢
        have HI8 : Hid (IsStrs w8 a8 kl c8 (atL K8)) := i8
        have HI68 : Hid (IsStrs w8 a2 kl c2 (atL K8)) := HI6.out.below hB8
        have HB8 : Hid (Below w1.heap.size w1 w8) := HB6.out.trans (hB8.mono HB6.out.size)
        clear o8 i8 hB8 hU8 hM8
        go_wp2_with fail
        refine (sameL_any _ _ _ _ kl K8 w8 HI8.out HI68.out).mono ?_
        rintro e w9 ⟨rfl, hB9⟩
        have HI9 : Hid (IsStrs w9 a2 kl c2 (atL K8)) := HI68.out.below hB9
        have HB9 : Hid (Below w1.heap.size w1 w9) := HB8.out.trans (hB9.mono HB8.out.size)
        have HS9 : Hid (IsStrs w9 u m uc S) := HS.out.below HB9.out
        clear hB9
        by_cases hm0 : m = 0
        · subst hm0
          go_wp2
          go_ret
          exact ⟨rfl, HB1.out.trans (HB9.out.mono HB1.out.size)⟩
        · obtain ⟨ub, uo, rfl, _, _⟩ := HS9.out.2.2 (by omega)
          have hmI : ¬ (m : Int) = 0 := by omega
          have ht := strs_tail HS9.out (by omega)
          have HT : Hid (∀ x, Reach D k (fun j => S (j + 1)) (m - 1) x → x ∈ K8) := fun x hx => HKK.out.tail hx
          by_cases hu1 : uc = 1
          · have hm1 : m - 1 = 0 := by have := HS9.out.1; omega
            have HT' : Hid (∀ x, Reach D k (fun j => S (j + 1)) 0 x → x ∈ K8) := fun x hx => HT.out x (by rw [hm1]; exact hx)
            have HImT : Hid (Calls Tryz.prog 48 #[.slice (some ⟨g, 0, none⟩) k gc, .slice (some ⟨ub, uo, none⟩) 0 0] w9 fun e w'' => ∃ v L, e = .returned v ∧ OwnL w'' w9.heap.size v L ∧ Up L ∧ (∀ x, x ∈ L ↔ dagB D k = true ∧ 0 ≤ 30 ∧ Reach D k (fun j => S (j + 1)) (0) x) ∧ Below w9.heap.size w9 w'') := HIm.out w9 HB9.out _ 0 0 (fun j => S (j + 1)) ⟨Nat.le_refl _, by omega, fun h => absurd h (Nat.lt_irrefl _)⟩ (fun j hj => absurd hj (Nat.not_lt_zero _))
            subst hu1
            clear ht hm1
            go_wp2_with fail
            refine HImT.out.mono ?_
            rintro e w10 ⟨v10, K10, rfl, o10, _, hM10, hB10⟩
            obtain ⟨a10, c10, rfl, i10, _⟩ := o10.strs
            obtain ⟨l10, hl10⟩ : ∃ l, l = K10.length := ⟨_, rfl⟩
            have HWL : Hid (Calls Tryz.prog 39 #[.slice a10 l10 c10, .slice a2 kl c2] w10 fun e w' => e = .returned (.bool true) ∧ w' = w10) := by
              have := lawWithin_any a10 K10.length c10 (atL K10) a2 kl c2 (atL K8) w10 i10 (HI9.out.below hB10)
              rw [HKL.out, hasB_of (fun j hj => HT'.out _ ((hM10 _).1 (at_mem hj)).2.2)] at this
              rw [HKL.out, hl10]
              exact this
            rw [← hl10] at i10 ⊢
            have HBE : Hid (Below w1.heap.size w1 w10) := HB9.out.trans (hB10.mono HB9.out.size)
            have hl1 := i10.1
            have hl2 := i10.2.1
            clear o10 hM10 hB10 i10 hl10
            go_wp2_with fail
            refine HWL.out.mono ?_
            rintro e w11 ⟨rfl, hw⟩
            rw [hw]
            clear hw w11
            go_wp2
            go_ret
            exact ⟨rfl, HB1.out.trans (HBE.out.mono HB1.out.size)⟩
          · rw [if_neg hu1] at ht
            have HImT : Hid (Calls Tryz.prog 48 #[.slice (some ⟨g, 0, none⟩) k gc, .slice (some ⟨ub, uo + 1, none⟩) (m - 1) (uc - 1)] w9 fun e w'' => ∃ v L, e = .returned v ∧ OwnL w'' w9.heap.size v L ∧ Up L ∧ (∀ x, x ∈ L ↔ dagB D k = true ∧ (m - 1) ≤ 30 ∧ Reach D k (fun j => S (j + 1)) ((m - 1)) x) ∧ Below w9.heap.size w9 w'') := HIm.out w9 HB9.out _ (m - 1) (uc - 1) (fun j => S (j + 1)) ht (fun j hj => HSz.out (j + 1) (by omega))
            clear ht
            go_wp2_with fail
            refine HImT.out.mono ?_
            rintro e w10 ⟨v10, K10, rfl, o10, _, hM10, hB10⟩
            obtain ⟨a10, c10, rfl, i10, _⟩ := o10.strs
            obtain ⟨l10, hl10⟩ : ∃ l, l = K10.length := ⟨_, rfl⟩
            have HWL : Hid (Calls Tryz.prog 39 #[.slice a10 l10 c10, .slice a2 kl c2] w10 fun e w' => e = .returned (.bool true) ∧ w' = w10) := by
              have := lawWithin_any a10 K10.length c10 (atL K10) a2 kl c2 (atL K8) w10 i10 (HI9.out.below hB10)
              rw [HKL.out, hasB_of (fun j hj => HT.out _ ((hM10 _).1 (at_mem hj)).2.2)] at this
              rw [HKL.out, hl10]
              exact this
            rw [← hl10] at i10 ⊢
            have HBE : Hid (Below w1.heap.size w1 w10) := HB9.out.trans (hB10.mono HB9.out.size)
            have hl1 := i10.1
            have hl2 := i10.2.1
            clear o10 hM10 hB10 i10 hl10
            go_wp2_with fail
            refine HWL.out.mono ?_
            rintro e w11 ⟨rfl, hw⟩
            rw [hw]
            clear hw w11
            go_wp2
            go_ret
            exact ⟨rfl, HB1.out.trans (HBE.out.mono HB1.out.size)⟩
end Go.Proofs.YtlibipbpaigmdaaGreatDoor
