/-
  The program's search among rising files. No condition but that the slice reads.
-/
import Derived.Test.YtmcojfmkmibjpaaGreatDkI
import Derived.Test.YtmcojfmkmibjpaaGreatShelfC
namespace Go.Proofs.YtmcojfmkmibjpaaGreat
open Go.RowKit
set_option linter.unusedVariables false

theorem cmp_is : ∀ a b : List UInt8, Lib.compareBytes a b = (if Op.bytesLess a b = true then -1 else if a = b then 0 else 1)
  | [], [] => by simp [Lib.compareBytes, Op.bytesLess]
  | [], _ :: _ => by simp [Lib.compareBytes, Op.bytesLess]
  | _ :: _, [] => by simp [Lib.compareBytes, Op.bytesLess]
  | a :: x, b :: y => by
    rw [Lib.compareBytes, Op.bytesLess, cmp_is x y]
    by_cases h1 : a < b
    · simp [h1]
    · by_cases h2 : b < a
      · have hne : a ≠ b := fun e => by subst e; exact h1 h2
        simp [h1, h2, hne]
      · have he : a = b := by
          rw [UInt8.lt_iff_toNat_lt] at h1 h2
          exact UInt8.toNat_inj.1 (by omega)
        subst he
        simp [h1]
/-- how a name stands to another -/
def cmpN (a b : ByteArray) : Int := Lib.compareBytes a.data.toList b.data.toList
theorem cmpN_lt (a b : ByteArray) : (decide (cmpN a b < 0)) = lessN a b := by
  unfold cmpN lessN
  rw [cmp_is, ByteArray.toList_eq, ByteArray.toList_eq]
  cases h : Op.bytesLess a.data.toList b.data.toList with
  | true => simp
  | false =>
    simp only [Bool.false_eq_true, if_false]
    split <;> simp
theorem cmpN_eq (a b : ByteArray) : (cmpN a b == 0) = (a.toList == b.toList) := by
  unfold cmpN
  rw [cmp_is, ByteArray.toList_eq, ByteArray.toList_eq]
  by_cases he : a.data.toList = b.data.toList
  · rw [he, bl_irr]; simp
  · have : (a.data.toList == b.data.toList) = false := by simpa using he
    rw [this]
    split <;> simp

theorem cmp69_any (f : Fl) (s : ByteArray) (w : World) : Calls Tryz.prog 58 #[.agg #[.string f.n, .string f.d], .string s] w fun e w' => e = .returned (.int .i64 (cmpN f.n s)) ∧ Below w.heap.size w w' := by
  have HB : Hid (∀ o, Below w.heap.size w (w.alloc o)) := fun o => (Below.refl _ _).alloc (Nat.le_refl _) _
  go_enter Tryz.func58, Tryz.ntmps58
  go_wp2_with (first
    | (go_at_call 59; refine (Tryz.strings_Compare _ _ _).mono ?_; rintro e w' ⟨rfl, hw⟩; rw [hw]; clear hw w'))
  go_ret
  exact ⟨rfl, HB.out _⟩

set_option maxRecDepth 4000 in
set_option maxHeartbeats 1000000 in
theorem search_any (v : Value) (L : List Fl) (s : ByteArray) (w : World) (h : RdF w v L) (hu : UpF L) (hl : L.length ≤ 1000) :
    Calls Tryz.prog 57 #[v, .string s, .func (.func 58) #[] #[]] w fun e w' => ∃ (i : Nat), e = .returned (.tuple #[.int .i64 i, .bool (getF L s).isSome]) ∧ Hid ((getF L s).isSome = true → i < L.length ∧ (L.getD i flZ).n.toList = s.toList) ∧ Below w.heap.size w w' := by
  obtain ⟨r, hr⟩ : ∃ r, r = (getF L s).isSome := ⟨_, rfl⟩
  rw [← hr]
  have HRR : Hid (r = (getF L s).isSome) := hr
  clear hr
  obtain ⟨a, cap, rfl, hlc, hcm, hc⟩ := h
  obtain ⟨n, hn⟩ : ∃ n, n = L.length := ⟨_, rfl⟩
  have HN : Hid (n = L.length) := hn
  have HU : Hid (UpF L) := hu
  rw [← hn] at hlc hc hl ⊢
  clear hn hu
  go_enter Tryz.func57, Tryz.ntmps57
  go_wp2
  go_loopw [9, 10] (fun x y wr => ∃ (i j : Nat), i ≤ j ∧ j ≤ n ∧ x = .int .i64 i ∧ y = .int .i64 j ∧ Hid ((∀ k, k < i → lessN (L.getD k flZ).n s = true) ∧ (∀ k, j ≤ k → k < n → lessN (L.getD k flZ).n s = false) ∧ Below w.heap.size w wr)) (fun x y _ => (intOf y).toNat - (intOf x).toNat)
  case atStart => exact ⟨0, n, Nat.zero_le _, Nat.le_refl _, rfl, rfl, (fun k hk => absurd hk (Nat.not_lt_zero _)), (fun k h1 h2 => by omega), Below.refl _ _⟩
  case round =>
    obtain ⟨i, j, hij, hjn, rfl, rfl, HI⟩ := hrel
    by_cases hlt : i < j
    · have hltI : (i : Int) < (j : Int) := by omega
      have hm1 : i ≤ (i + j) / 2 := by omega
      have hm2 : (i + j) / 2 < j := by omega
      have hmn : (i + j) / 2 < n := by omega
      obtain ⟨b, off, rfl, hbs, hl'⟩ := hc (by omega)
      have hkL : (i + j) / 2 < L.length := by rw [← HN.out]; exact hmn
      have hat := hl' _ hkL
      have d0 := (HI.out.2.2.cell (p := ⟨b, off + (i + j) / 2 * 2, none⟩) hbs).trans hat.c0
      have d1 := (HI.out.2.2.cell (p := ⟨b, off + (i + j) / 2 * 2 + 1, none⟩) hbs).trans hat.c1
      obtain ⟨f, hf⟩ : ∃ f, f = L.getD ((i + j) / 2) flZ := ⟨_, rfl⟩
      rw [← hf] at d0 d1
      have HF : Hid (f = L.getD ((i + j) / 2) flZ) := hf
      have HB := (show Hid _ from HI.out.2.2)
      have hlt2 := cmpN_lt f.n s
      clear hat hl' hc hf
      cases hls : lessN f.n s with
      | true =>
        rw [hls] at hlt2
        have hcI : cmpN f.n s < 0 := of_decide_eq_true hlt2
        have HI2 : Hid ((∀ k, k < (i + j) / 2 + 1 → lessN (L.getD k flZ).n s = true) ∧ (∀ k, j ≤ k → k < n → lessN (L.getD k flZ).n s = false)) := ⟨fun k hk => by
          rcases Nat.lt_succ_iff_lt_or_eq.1 hk with h | rfl
          · have hkk : k < L.length := by omega
            have := (List.pairwise_iff_getElem.1 HU.out) k ((i + j) / 2) hkk hkL h
            have e1 : L.getD k flZ = L[k] := by simp [hkk]
            have e2 : f = L[(i + j) / 2] := by rw [HF.out]; simp [hkL]
            rw [e1]
            rw [← e2] at this
            exact lessN_trans this hls
          · rw [← HF.out]; exact hls, HI.out.2.1⟩
        clear HI
        go_wp2_with (first
          | (go_at_call 58; refine (cmp69_any f s _).mono ?_; rintro e w2 ⟨rfl, hB2⟩))
        have HB2 : Hid (Below w.heap.size w w2) := HB.out.trans (hB2.mono HB.out.size)
        clear hB2 d0 d1
        go_roundw
        case rel => exact ⟨(i + j) / 2 + 1, j, by omega, hjn, by go_num, rfl, HI2.out.1, HI2.out.2, HB2.out⟩
        case measure => simp [intOf]; omega
      | false =>
        rw [hls] at hlt2
        have hcI : ¬ cmpN f.n s < 0 := of_decide_eq_false hlt2
        have HI2 : Hid ((∀ k, k < i → lessN (L.getD k flZ).n s = true) ∧ (∀ k, (i + j) / 2 ≤ k → k < n → lessN (L.getD k flZ).n s = false)) := ⟨HI.out.1, fun k hk hkn => by
          have hkk : k < L.length := by rw [← HN.out]; exact hkn
          rcases Nat.lt_or_eq_of_le hk with h | h
          · have := (List.pairwise_iff_getElem.1 HU.out) ((i + j) / 2) k hkL hkk h
            have e1 : L.getD k flZ = L[k] := by simp [hkk]
            have e2 : f = L[(i + j) / 2] := by rw [HF.out]; simp [hkL]
            rw [← e2, ← e1] at this
            cases hq : lessN (L.getD k flZ).n s with
            | false => rfl
            | true => rw [lessN_trans this hq] at hls; cases hls
          · rw [← h, ← HF.out]; exact hls⟩
        clear HI
        go_wp2_with (first
          | (go_at_call 58; refine (cmp69_any f s _).mono ?_; rintro e w2 ⟨rfl, hB2⟩))
        have HB2 : Hid (Below w.heap.size w w2) := HB.out.trans (hB2.mono HB.out.size)
        clear hB2 d0 d1
        go_roundw
        case rel => exact ⟨i, (i + j) / 2, by omega, by omega, rfl, by go_num, HI2.out.1, HI2.out.2, HB2.out⟩
        case measure => simp [intOf]; omega
    · have hij2 : i = j := by omega
      subst hij2
      have HB := (show Hid _ from HI.out.2.2)
      by_cases hin : i < n
      · have hinI : (i : Int) < (n : Int) := by omega
        obtain ⟨b, off, rfl, hbs, hl'⟩ := hc (by omega)
        have hkL : i < L.length := by rw [← HN.out]; exact hin
        have hat := hl' _ hkL
        have d0 := (HI.out.2.2.cell (p := ⟨b, off + i * 2, none⟩) hbs).trans hat.c0
        have d1 := (HI.out.2.2.cell (p := ⟨b, off + i * 2 + 1, none⟩) hbs).trans hat.c1
        obtain ⟨f, hf⟩ : ∃ f, f = L.getD i flZ := ⟨_, rfl⟩
        rw [← hf] at d0 d1
        have HF : Hid (f = L.getD i flZ) := hf
        have heq := cmpN_eq f.n s
        have HT : Hid ((f.n.toList == s.toList) = false → ∀ g ∈ L, g.n.toList ≠ s.toList) := fun hne g hg => by
          obtain ⟨k, hk, e⟩ := List.getElem_of_mem hg
          have e1 : L.getD k flZ = g := by simp [hk, e]
          rcases Nat.lt_trichotomy k i with h | h | h
          · have := HI.out.1 k h
            rw [e1] at this
            exact lessN_ne this
          · rw [h, ← HF.out] at e1
            rw [← e1]
            simpa using hne
          · have h1 := HI.out.2.1 i (Nat.le_refl _) hin
            rw [← HF.out] at h1
            have h2 := lessN_tri h1 (by simpa using hne)
            have h3 := (List.pairwise_iff_getElem.1 HU.out) i k hkL hk h
            have e2 : f = L[i] := by rw [HF.out]; simp [hkL]
            rw [← e2, e] at h3
            exact fun q => lessN_ne (lessN_trans h2 h3) q.symm
        clear hat hl' hc hf HI
        cases hq : (f.n.toList == s.toList) with
        | true =>
          rw [hq] at heq
          have HQ := (show Hid _ from hq)
          have HG : Hid ((getF L s).isSome = true) := by
            show _ = _
            rw [← getF_congr L (eq_of_beq hq), getF_some HU.out (by rw [HF.out]; simp [hkL])]
            rfl
          go_wp2_with (first
            | (go_at_call 58; refine (cmp69_any f s _).mono ?_; rintro e w2 ⟨rfl, hB2⟩))
          go_ret2
          exact ⟨i, ret_val (by rw [HRR.out, HG.out]; rfl), (fun _ => ⟨hin, by rw [← HF.out]; exact eq_of_beq HQ.out⟩), HB.out.trans (hB2.mono HB.out.size)⟩
        | false =>
          rw [hq] at heq
          have HQ := (show Hid _ from hq)
          go_wp2_with (first
            | (go_at_call 58; refine (cmp69_any f s _).mono ?_; rintro e w2 ⟨rfl, hB2⟩))
          go_ret2
          exact ⟨i, ret_val (by rw [HRR.out, getF_out (HT.out HQ.out)]; rfl), (fun h => by rw [HRR.out, getF_out (HT.out HQ.out)] at h; cases h), HB.out.trans (hB2.mono HB.out.size)⟩
      · have hinI : ¬ (i : Int) < (n : Int) := by omega
        have HT : Hid (∀ g ∈ L, g.n.toList ≠ s.toList) := fun g hg => by
          obtain ⟨k, hk, e⟩ := List.getElem_of_mem hg
          have e1 : L.getD k flZ = g := by simp [hk, e]
          have := HI.out.1 k (by have := HN.out; omega)
          rw [e1] at this
          exact lessN_ne this
        clear hc HI
        go_wp2
        go_ret2
        exact ⟨i, ret_val (by rw [HRR.out, getF_out HT.out]; rfl), (fun h => by rw [HRR.out, getF_out HT.out] at h; cases h), HB.out⟩

/-- what is read of a file -/
def readF (L : List Fl) (s : ByteArray) : ByteArray := (getF L s).getD ⟨#[]⟩
set_option maxHeartbeats 1000000 in
theorem dataOf_any (v : Value) (L : List Fl) (s : ByteArray) (w : World) (h : RdF w v L) (hu : UpF L) (hl : L.length ≤ 1000) :
    Calls Tryz.prog 38 #[v, .string s] w fun e w' => e = .returned (.tuple #[.string (readF L s), .bool (getF L s).isSome]) ∧ Below w.heap.size w w' := by
  have HR : Hid (∀ w', Below w.heap.size w w' → RdF w' v L) := fun w' hB => h.below hB
  have HU : Hid (UpF L ∧ L.length ≤ 1000) := ⟨hu, hl⟩
  obtain ⟨a, cap, rfl, hlc, hcm, hc⟩ := h
  obtain ⟨n, hn⟩ : ∃ n, n = L.length := ⟨_, rfl⟩
  have HN : Hid (n = L.length) := hn
  rw [← hn] at hlc hc HR ⊢
  clear hn hu hl
  go_enter Tryz.func38, Tryz.ntmps38
  go_wp2_with fail
  refine (search_any _ L s w (HR.out w (Below.refl _ _)) HU.out.1 HU.out.2).mono ?_
  rintro e w1 ⟨i, rfl, ht, hB1⟩
  have HB1 := (show Hid _ from hB1)
  cases hg : (getF L s).isSome with
  | false =>
    have HG : Hid (getF L s = none) := by
      show _ = _
      cases hq : getF L s with
      | none => rfl
      | some x => rw [hq] at hg; cases hg
    clear ht hB1 hc
    go_wp2
    go_ret2
    exact ⟨by unfold readF; rw [HG.out]; rfl, HB1.out⟩
  | true =>
    obtain ⟨hi, he⟩ := ht hg
    have hin : i < n := by rw [HN.out]; exact hi
    have hinI : (i : Int) < (n : Int) := by omega
    obtain ⟨b, off, rfl, hbs, hl'⟩ := hc (by omega)
    have d1 := (hB1.cell (p := ⟨b, off + i * 2 + 1, none⟩) hbs).trans (hl' i hi).c1
    have HG : Hid (getF L s = some (L.getD i flZ).d) := by
      show _ = _
      rw [← getF_congr L he]
      exact getF_some HU.out.1 (by simp [hi])
    obtain ⟨x, hx⟩ : ∃ x, x = (L.getD i flZ).d := ⟨_, rfl⟩
    rw [← hx] at d1 HG
    clear ht hB1 hc hl' hx he
    go_wp2
    go_ret2
    exact ⟨by unfold readF; rw [HG.out]; rfl, HB1.out⟩
end Go.Proofs.YtmcojfmkmibjpaaGreat
