/-
  The program's canBeMade: whether a term can be made of a set of texts. No condition but that the term is right and the table of powers of ten lies.
-/
import Derived.Test.YtpcbhjejpebogaaGreatDoorThR
namespace Go.Proofs.YtpcbhjejpebogaaGreatDoor
open Go.RowKit Go.Maps
set_option linter.unusedVariables false

/-- can be made of what P holds -/
def mkP (P : Tr → Bool) : Tr → Bool
  | ⟨.inl (k, n)⟩ => P ⟨.inl (k, n)⟩ || !((k : Int) == 2)
  | ⟨.inr (.inl u)⟩ => P ⟨.inr (.inl u)⟩ || mkP P u
  | ⟨.inr (.inr (.inl (a, b)))⟩ => P ⟨.inr (.inr (.inl (a, b)))⟩ || (mkP P a && mkP P b)
  | ⟨.inr (.inr (.inr (k, n, a)))⟩ => P ⟨.inr (.inr (.inr (k, n, a)))⟩ || (P (keyT n) && mkP P a)
theorem mkP_yes {P : Tr → Bool} : ∀ {t : Tr}, P t = true → mkP P t = true
  | ⟨.inl (k, n)⟩, h => by rw [mkP, h]; rfl
  | ⟨.inr (.inl u)⟩, h => by rw [mkP, h]; rfl
  | ⟨.inr (.inr (.inl (a, b)))⟩, h => by rw [mkP, h]; rfl
  | ⟨.inr (.inr (.inr (k, n, a)))⟩, h => by rw [mkP, h]; rfl
def hasE (E : DataW Value) (t : Tr) : Bool := has E (.string t.txt.toList)
/-- the program's answer at a term -/
def MadeC (B n : Nat) (E : DataW Value) (t : Tr) : Prop := ∀ w : World, SetOf w B n E → Pow w → Calls Tryz.prog 46 #[.map (some B), t.val] w fun e w' => e = .returned (.bool (mkP (hasE E) t)) ∧ Below w.heap.size w w'
theorem mBelowH (v : Value) (w : World) : (method 287 134 v "loop.example/g00318/impl.below").run Tryz.prog w = .ok (160, v) w := by kernel_rfl
theorem mBelowP (v : Value) (w : World) : (method 287 129 v "loop.example/g00318/impl.below").run Tryz.prog w = .ok (158, v) w := by kernel_rfl
theorem mBelowK (v : Value) (w : World) : (method 287 110 v "loop.example/g00318/impl.below").run Tryz.prog w = .ok (156, v) w := by kernel_rfl
theorem lit6 (a b c d e f : Value) : (#[a, b, c, d, e, f] : Array Value).getD 2 undef = c := rfl
theorem lit7 (a b c d e f g : Value) : (#[a, b, c, d, e, f, g] : Array Value).getD 2 undef = c := rfl
theorem lit8 (a b c d e f g h : Value) : (#[a, b, c, d, e, f, g, h] : Array Value).getD 2 undef = c := rfl
theorem noK_P (v : Value) (w : World) : (Instr.typeAssert (.iface 129 v) 69 110 true).run Tryz.prog w = .ok (.tuple #[.agg #[.int .i64 0, .int .i64 0, .nilIface], .bool false]) w := noK v w 129 (by decide)
theorem one_at {p : Nat → Tr → Prop} {u s : Tr} {j : Nat} (h : p 0 u) (hj : [u][j]? = some s) : p j s := by
  rcases j with _ | j
  · simp at hj; subst hj; exact h
  · simp at hj
theorem two_at {p : Nat → Tr → Prop} {u v s : Tr} {j : Nat} (h : p 0 u) (k : p 1 v) (hj : [u, v][j]? = some s) : p j s := by
  rcases j with _ | _ | j
  · simp at hj; subst hj; exact h
  · simp at hj; subst hj; exact k
  · simp at hj
theorem ret_b {a b : Bool} (h : a = b) : Ending.returned (.bool a) = .returned (.bool b) := by rw [h]
section
variable {B nn : Nat} {E : DataW Value}

set_option maxRecDepth 8000 in
set_option maxHeartbeats 8000000 in
theorem made_leaf (k n : Nat) (hfit : Fit (⟨.inl (k, n)⟩ : Tr)) : MadeC B nn E (⟨.inl (k, n)⟩ : Tr) := by
  intro w hSE hP
  obtain ⟨t, htt⟩ : ∃ t : Tr, t = (⟨.inl (k, n)⟩ : Tr) := ⟨_, rfl⟩
  have hti : t.inn = .agg #[.int .i64 k, .int .i64 n] := by rw [htt, Tr.inn]
  have htY : t.ty = 108 := by rw [htt, Tr.ty]
  have HX0 : TextC t := by rw [htt]; exact ttext_any _ hfit.1 hfit.2.1
  have hTs0 := Tr.txt_size _ hfit.1
  have hTs1 := hfit.2.1
  have HFIT : Hid (Fit (⟨.inl (k, n)⟩ : Tr)) := hfit
  rw [← htt] at hTs0 hTs1 ⊢
  obtain ⟨T, hT⟩ : ∃ T, T = t.txt := ⟨_, rfl⟩
  obtain ⟨v, hv⟩ : ∃ v, v = t.inn := ⟨_, rfl⟩
  obtain ⟨ty, hty⟩ : ∃ ty, ty = t.ty := ⟨_, rfl⟩
  obtain ⟨fn, hfn⟩ : ∃ fn, fn = t.tf := ⟨_, rfl⟩
  have hm : ∀ w, (method 287 ty v "loop.example/g00318/impl.text").run Tryz.prog w = .ok (fn, v) w := fun w => by rw [hv, hty, hfn]; exact mText t w
  have hen : ∀ args w, (callFunc fn args).run Tryz.prog w = .ok (.enter fn args) w := by rw [hfn]; exact enText t
  have HX : Hid (Calls Tryz.prog fn #[v] w fun e w' => e = .returned (.string T) ∧ Below w.heap.size w w') := by
    have h1 := HX0 w hP
    rw [← hT, ← hfn, ← hv] at h1
    exact h1
  have HTV : Hid (ty = 108 ∧ v = .agg #[.int .i64 k, .int .i64 n]) := ⟨hty.trans htY, hv.trans hti⟩
  rw [t.val_is, ← hv, ← hty]
  have hTs : T.size ≤ 9223372036854775807 := by rw [hT]; omega
  have HTT : Hid (t = (⟨.inl (k, n)⟩ : Tr)) := htt
  have HP : Hid (Pow w) := hP
  have HSE : Hid (SetOf w B nn E) := hSE
  obtain ⟨b0, hb0⟩ : ∃ b0, b0 = hasE E t := ⟨_, rfl⟩
  have hb1 : has E (.string T.toList) = b0 := by rw [hb0, hT]; rfl
  have HB0 : Hid (b0 = hasE E t) := hb0
  clear hSE hP htt HX0 hT hti htY hv hty hfn hTs0 hTs1 hb0 hfit
  have A1 := asL
  obtain ⟨kb, hkb⟩ : ∃ kb, kb = ((k : Int) == 2) := ⟨_, rfl⟩
  have HKB : Hid (kb = ((k : Int) == 2)) := hkb
  have hk2 : ((k : Int) != 2) = !kb := by rw [hkb]; rfl
  have hk3 : ((k : Int) == 2) = kb := hkb.symm
  clear hkb
  go_enter Tryz.func46, Tryz.ntmps46
  go_wp2_with fail
  refine HX.out.mono ?_
  rintro e w1 ⟨rfl, hB1⟩
  have HB1 : Hid (Below w.heap.size w w1) := hB1
  have HS1 : Hid (SetOf w1 B nn E) := HSE.out.below hB1
  clear hB1
  go_wp2_with fail
  refine (has71_any B nn E T w1 HS1.out hTs).mono ?_
  rintro e w2 ⟨rfl, hB2⟩
  rw [hb1]
  have HB2 : Hid (Below w.heap.size w w2) := HB1.out.trans (hB2.mono HB1.out.size)
  have HS2 : Hid (SetOf w2 B nn E) := HS1.out.below hB2
  clear hB2
  cases b0 with
  | true =>
    go_wp2
    go_ret
    exact ⟨ret_b (mkP_yes HB0.out.symm).symm, HB2.out⟩
  | false =>
  obtain ⟨e1, e2⟩ := HTV.out
  subst e1 e2
  go_wp2
  go_ret
  refine ⟨ret_b ?_, HB2.out.alloc HB2.out.size _⟩
  have h0 := HB0.out
  rw [HTT.out] at h0 ⊢
  rw [mkP, ← h0, ← HKB.out]
  rfl

set_option maxRecDepth 8000 in
set_option maxHeartbeats 8000000 in
theorem made_hash (u : Tr) (hfit : Fit (⟨.inr (.inl u)⟩ : Tr)) (ih1 : MadeC B nn E u) : MadeC B nn E (⟨.inr (.inl u)⟩ : Tr) := by
  intro w hSE hP
  obtain ⟨T1, u1, hv1⟩ := val_iface u
  obtain ⟨t, htt⟩ : ∃ t : Tr, t = (⟨.inr (.inl u)⟩ : Tr) := ⟨_, rfl⟩
  have hti : t.inn = .agg #[.iface T1 u1] := by rw [htt, Tr.inn, hv1]
  have htY : t.ty = 134 := by rw [htt, Tr.ty]
  have HX0 : TextC t := by rw [htt]; exact ttext_any _ hfit.1 hfit.2.1
  have hTs0 := Tr.txt_size _ hfit.1
  have hTs1 := hfit.2.1
  have HFIT : Hid (Fit (⟨.inr (.inl u)⟩ : Tr)) := hfit
  rw [← htt] at hTs0 hTs1 ⊢
  obtain ⟨T, hT⟩ : ∃ T, T = t.txt := ⟨_, rfl⟩
  obtain ⟨v, hv⟩ : ∃ v, v = t.inn := ⟨_, rfl⟩
  obtain ⟨ty, hty⟩ : ∃ ty, ty = t.ty := ⟨_, rfl⟩
  obtain ⟨fn, hfn⟩ : ∃ fn, fn = t.tf := ⟨_, rfl⟩
  have hm : ∀ w, (method 287 ty v "loop.example/g00318/impl.text").run Tryz.prog w = .ok (fn, v) w := fun w => by rw [hv, hty, hfn]; exact mText t w
  have hen : ∀ args w, (callFunc fn args).run Tryz.prog w = .ok (.enter fn args) w := by rw [hfn]; exact enText t
  have HX : Hid (Calls Tryz.prog fn #[v] w fun e w' => e = .returned (.string T) ∧ Below w.heap.size w w') := by
    have h1 := HX0 w hP
    rw [← hT, ← hfn, ← hv] at h1
    exact h1
  have HTV : Hid (ty = 134 ∧ v = .agg #[.iface T1 u1]) := ⟨hty.trans htY, hv.trans hti⟩
  rw [t.val_is, ← hv, ← hty]
  have hTs : T.size ≤ 9223372036854775807 := by rw [hT]; omega
  have HTT : Hid (t = (⟨.inr (.inl u)⟩ : Tr)) := htt
  have HP : Hid (Pow w) := hP
  have HSE : Hid (SetOf w B nn E) := hSE
  obtain ⟨b0, hb0⟩ : ∃ b0, b0 = hasE E t := ⟨_, rfl⟩
  have hb1 : has E (.string T.toList) = b0 := by rw [hb0, hT]; rfl
  have HB0 : Hid (b0 = hasE E t) := hb0
  clear hSE hP htt HX0 hT hti htY hv hty hfn hTs0 hTs1 hb0 hfit
  have A1 := noL_H
  have A2 := noK_H
  have A3 := mBelowH
  have HV : Hid (u.val = .iface T1 u1) := hv1
  clear hv1
  obtain ⟨KL, hKL⟩ : ∃ KL : List Tr, KL = [u] := ⟨_, rfl⟩
  have HKL : Hid (KL.length = 1) := by show _ = _; rw [hKL]; rfl
  have HIH : Hid (∀ (j : Nat) t, KL[j]? = some t → MadeC B nn E t) := fun j t h => by rw [hKL] at h; exact one_at (p := fun _ t => MadeC B nn E t) ih1 h
  have HKE : Hid (KL = [u]) := hKL
  clear hKL
  go_enter Tryz.func46, Tryz.ntmps46
  go_wp2_with fail
  refine HX.out.mono ?_
  rintro e w1 ⟨rfl, hB1⟩
  have HB1 : Hid (Below w.heap.size w w1) := hB1
  have HS1 : Hid (SetOf w1 B nn E) := HSE.out.below hB1
  clear hB1
  go_wp2_with fail
  refine (has71_any B nn E T w1 HS1.out hTs).mono ?_
  rintro e w2 ⟨rfl, hB2⟩
  rw [hb1]
  have HB2 : Hid (Below w.heap.size w w2) := HB1.out.trans (hB2.mono HB1.out.size)
  have HS2 : Hid (SetOf w2 B nn E) := HS1.out.below hB2
  clear hB2
  cases b0 with
  | true =>
    go_wp2
    go_ret
    exact ⟨ret_b (mkP_yes HB0.out.symm).symm, HB2.out⟩
  | false =>
  obtain ⟨e1, e2⟩ := HTV.out
  subst e1 e2
  go_wp2
  obtain ⟨WL, hWL⟩ : ∃ WL, WL = ((w2).alloc (.cells #[.iface T1 u1] 134)).alloc (.cells #[.iface T1 u1] 69) := ⟨_, rfl⟩
  have hBL : Below w2.heap.size w2 WL := by rw [hWL]; exact ((Below.refl _ _).alloc (Nat.le_refl _) _).alloc (by simp) _
  obtain ⟨PB, hPB⟩ : ∃ PB, PB = w2.heap.size + 1 := ⟨_, rfl⟩
  have hGL : WL.heap[PB]? = some (.cells #[.iface T1 u1] 69 (0, 0)) := by rw [hWL, hPB]; have h1 := heap_alloc_new (w2.alloc (.cells #[.iface T1 u1] 134)) (.cells #[.iface T1 u1] 69); simpa using h1
  have HPB : Hid (PB < WL.heap.size) := lt_of_block hGL
  have c0 : WL.cell? ⟨PB, 0, none⟩ = _ := cell_of_row WL _ 0 _ _ _ hGL
  have HCL : Hid (∀ (k : Nat) s, KL[k]? = some s → WL.cell? ⟨PB, k, none⟩ = some s.val) := fun k s h => by rw [HKE.out] at h; exact one_at (p := fun k s => WL.cell? ⟨PB, k, none⟩ = some s.val) (c0.trans (congrArg some HV.out.symm)) h
  rw [← hWL, ← hPB]
  have HBL : Hid (Below w.heap.size w WL) := HB2.out.trans (hBL.mono HB2.out.size)
  have HSL : Hid (SetOf WL B nn E) := HS2.out.below hBL
  have HNO : Hid (∀ (k : Nat) s, KL[k]? = some s → mkP (hasE E) s = false → mkP (hasE E) t = false) := fun k s h hs => by
    rw [HKE.out] at h
    exact one_at (p := fun _ s => mkP (hasE E) s = false → mkP (hasE E) t = false) (fun hs => by rw [HTT.out, mkP, ← HTT.out, ← HB0.out, hs]; rfl) h hs
  have HYES : Hid ((∀ (j : Nat) s, j < 1 → KL[j]? = some s → mkP (hasE E) s = true) → mkP (hasE E) t = true) := fun h => by
    rw [HKE.out] at h
    have y0 := h 0 _ (by decide) rfl
    rw [HTT.out, mkP, ← HTT.out, ← HB0.out, y0]
    rfl
  clear hBL hGL c0 hWL hPB
  (try rw [lit6]); (try rw [lit7]); (try rw [lit8])
  go_loopw [32] (fun i wr => ∃ (k : Nat), k ≤ 1 ∧ i = .int .i64 k ∧ Hid (∀ (j : Nat) s, j < k → KL[j]? = some s → mkP (hasE E) s = true) ∧ Below w.heap.size w wr ∧ Hid (Below WL.heap.size WL wr)) (fun i _ => 1 - (intOf i).toNat)
  case atStart => exact ⟨0, Nat.zero_le _, rfl, (fun j t hj => absurd hj (Nat.not_lt_zero _)), HBL.out, Below.refl _ _⟩
  case round =>
    obtain ⟨k, hk, rfl, HA, hB, HBR⟩ := hrel
    have HBW : Hid (Below w.heap.size w wr) := hB
    clear hB
    by_cases hlt : k < 1
    · obtain ⟨s, ht⟩ : ∃ s, KL[k]? = some s := ⟨_, List.getElem?_eq_getElem (by rw [HKL.out]; exact hlt)⟩
      have hltI : (k : Int) < 1 := by omega
      obtain ⟨Tt, ut, hvt⟩ := val_iface s
      have d1 : wr.cell? ⟨PB, k, none⟩ = some (.iface Tt ut) := by
        rw [← hvt]
        exact (HBR.out.cell (p := ⟨PB, k, none⟩) HPB.out).trans (HCL.out k s ht)
      have HC : Hid (Calls Tryz.prog 46 #[.map (some B), .iface Tt ut] wr fun e w' => e = .returned (.bool (mkP (hasE E) s)) ∧ Below wr.heap.size wr w') := by
        have := HIH.out k s ht wr (HSL.out.below HBR.out) (HP.out.below HBW.out)
        rw [hvt] at this
        exact this
      obtain ⟨bt, hbt⟩ : ∃ bt, bt = mkP (hasE E) s := ⟨_, rfl⟩
      rw [← hbt] at HC
      have HBT : Hid (bt = mkP (hasE E) s) := hbt
      have HKT : Hid (KL[k]? = some s) := ht
      clear ht hvt hbt
      go_wp2_with fail
      refine HC.out.mono ?_
      rintro e w6 ⟨rfl, hB6⟩
      have HB6 : Hid (Below w.heap.size w w6) := HBW.out.trans (hB6.mono HBW.out.size)
      have HBR6 : Hid (Below WL.heap.size WL w6) := HBR.out.trans (hB6.mono HBR.out.size)
      clear hB6 d1
      cases bt with
      | false =>
        go_wp2
        go_ret
        exact ⟨ret_b (HNO.out k s HKT.out HBT.out.symm).symm, HB6.out⟩
      | true =>
        have HA2 : Hid (∀ (j : Nat) s, j < k + 1 → KL[j]? = some s → mkP (hasE E) s = true) := fun j u hj hu => by
          rcases Nat.lt_succ_iff_lt_or_eq.1 hj with h1 | rfl
          · exact HA.out j u h1 hu
          · rw [HKT.out] at hu; cases hu; exact HBT.out.symm
        go_wp2
        go_roundw
        case rel => exact ⟨k + 1, by omega, by go_num, HA2, HB6.out, HBR6⟩
        case measure => simp [intOf]; omega
    · have hke : k = 1 := by omega
      subst hke
      go_wp2
      go_ret
      exact ⟨ret_b (HYES.out HA.out).symm, HBW.out⟩

set_option maxRecDepth 8000 in
set_option maxHeartbeats 8000000 in
theorem made_pair (a b : Tr) (hfit : Fit (⟨.inr (.inr (.inl (a, b)))⟩ : Tr)) (ih1 : MadeC B nn E a) (ih2 : MadeC B nn E b) : MadeC B nn E (⟨.inr (.inr (.inl (a, b)))⟩ : Tr) := by
  intro w hSE hP
  obtain ⟨T1, u1, hv1⟩ := val_iface a
  obtain ⟨T2, u2, hv2⟩ := val_iface b
  obtain ⟨t, htt⟩ : ∃ t : Tr, t = (⟨.inr (.inr (.inl (a, b)))⟩ : Tr) := ⟨_, rfl⟩
  have hti : t.inn = .agg #[.iface T1 u1, .iface T2 u2] := by rw [htt, Tr.inn, hv1, hv2]
  have htY : t.ty = 129 := by rw [htt, Tr.ty]
  have HX0 : TextC t := by rw [htt]; exact ttext_any _ hfit.1 hfit.2.1
  have hTs0 := Tr.txt_size _ hfit.1
  have hTs1 := hfit.2.1
  have HFIT : Hid (Fit (⟨.inr (.inr (.inl (a, b)))⟩ : Tr)) := hfit
  rw [← htt] at hTs0 hTs1 ⊢
  obtain ⟨T, hT⟩ : ∃ T, T = t.txt := ⟨_, rfl⟩
  obtain ⟨v, hv⟩ : ∃ v, v = t.inn := ⟨_, rfl⟩
  obtain ⟨ty, hty⟩ : ∃ ty, ty = t.ty := ⟨_, rfl⟩
  obtain ⟨fn, hfn⟩ : ∃ fn, fn = t.tf := ⟨_, rfl⟩
  have hm : ∀ w, (method 287 ty v "loop.example/g00318/impl.text").run Tryz.prog w = .ok (fn, v) w := fun w => by rw [hv, hty, hfn]; exact mText t w
  have hen : ∀ args w, (callFunc fn args).run Tryz.prog w = .ok (.enter fn args) w := by rw [hfn]; exact enText t
  have HX : Hid (Calls Tryz.prog fn #[v] w fun e w' => e = .returned (.string T) ∧ Below w.heap.size w w') := by
    have h1 := HX0 w hP
    rw [← hT, ← hfn, ← hv] at h1
    exact h1
  have HTV : Hid (ty = 129 ∧ v = .agg #[.iface T1 u1, .iface T2 u2]) := ⟨hty.trans htY, hv.trans hti⟩
  rw [t.val_is, ← hv, ← hty]
  have hTs : T.size ≤ 9223372036854775807 := by rw [hT]; omega
  have HTT : Hid (t = (⟨.inr (.inr (.inl (a, b)))⟩ : Tr)) := htt
  have HP : Hid (Pow w) := hP
  have HSE : Hid (SetOf w B nn E) := hSE
  obtain ⟨b0, hb0⟩ : ∃ b0, b0 = hasE E t := ⟨_, rfl⟩
  have hb1 : has E (.string T.toList) = b0 := by rw [hb0, hT]; rfl
  have HB0 : Hid (b0 = hasE E t) := hb0
  clear hSE hP htt HX0 hT hti htY hv hty hfn hTs0 hTs1 hb0 hfit
  have A1 := noL_P
  have A2 := noK_P
  have A3 := mBelowP
  have HV : Hid (a.val = .iface T1 u1 ∧ b.val = .iface T2 u2) := ⟨hv1, hv2⟩
  clear hv1 hv2
  obtain ⟨KL, hKL⟩ : ∃ KL : List Tr, KL = [a, b] := ⟨_, rfl⟩
  have HKL : Hid (KL.length = 2) := by show _ = _; rw [hKL]; rfl
  have HIH : Hid (∀ (j : Nat) t, KL[j]? = some t → MadeC B nn E t) := fun j t h => by rw [hKL] at h; exact two_at (p := fun _ t => MadeC B nn E t) ih1 ih2 h
  have HKE : Hid (KL = [a, b]) := hKL
  clear hKL
  go_enter Tryz.func46, Tryz.ntmps46
  go_wp2_with fail
  refine HX.out.mono ?_
  rintro e w1 ⟨rfl, hB1⟩
  have HB1 : Hid (Below w.heap.size w w1) := hB1
  have HS1 : Hid (SetOf w1 B nn E) := HSE.out.below hB1
  clear hB1
  go_wp2_with fail
  refine (has71_any B nn E T w1 HS1.out hTs).mono ?_
  rintro e w2 ⟨rfl, hB2⟩
  rw [hb1]
  have HB2 : Hid (Below w.heap.size w w2) := HB1.out.trans (hB2.mono HB1.out.size)
  have HS2 : Hid (SetOf w2 B nn E) := HS1.out.below hB2
  clear hB2
  cases b0 with
  | true =>
    go_wp2
    go_ret
    exact ⟨ret_b (mkP_yes HB0.out.symm).symm, HB2.out⟩
  | false =>
  obtain ⟨e1, e2⟩ := HTV.out
  subst e1 e2
  go_wp2
  obtain ⟨WL, hWL⟩ : ∃ WL, WL = ((w2).alloc (.cells #[.iface T1 u1, .iface T2 u2] 129)).alloc (.cells #[.iface T1 u1, .iface T2 u2] 69) := ⟨_, rfl⟩
  have hBL : Below w2.heap.size w2 WL := by rw [hWL]; exact ((Below.refl _ _).alloc (Nat.le_refl _) _).alloc (by simp) _
  obtain ⟨PB, hPB⟩ : ∃ PB, PB = w2.heap.size + 1 := ⟨_, rfl⟩
  have hGL : WL.heap[PB]? = some (.cells #[.iface T1 u1, .iface T2 u2] 69 (0, 0)) := by rw [hWL, hPB]; have h1 := heap_alloc_new (w2.alloc (.cells #[.iface T1 u1, .iface T2 u2] 129)) (.cells #[.iface T1 u1, .iface T2 u2] 69); simpa using h1
  have HPB : Hid (PB < WL.heap.size) := lt_of_block hGL
  have c0 : WL.cell? ⟨PB, 0, none⟩ = _ := cell_of_row WL _ 0 _ _ _ hGL
  have c1 : WL.cell? ⟨PB, 1, none⟩ = _ := cell_of_row WL _ 1 _ _ _ hGL
  have HCL : Hid (∀ (k : Nat) s, KL[k]? = some s → WL.cell? ⟨PB, k, none⟩ = some s.val) := fun k s h => by rw [HKE.out] at h; exact two_at (p := fun k s => WL.cell? ⟨PB, k, none⟩ = some s.val) (c0.trans (congrArg some HV.out.1.symm)) (c1.trans (congrArg some HV.out.2.symm)) h
  rw [← hWL, ← hPB]
  have HBL : Hid (Below w.heap.size w WL) := HB2.out.trans (hBL.mono HB2.out.size)
  have HSL : Hid (SetOf WL B nn E) := HS2.out.below hBL
  have HNO : Hid (∀ (k : Nat) s, KL[k]? = some s → mkP (hasE E) s = false → mkP (hasE E) t = false) := fun k s h hs => by
    rw [HKE.out] at h
    exact two_at (p := fun _ s => mkP (hasE E) s = false → mkP (hasE E) t = false) (fun hs => by rw [HTT.out, mkP, ← HTT.out, ← HB0.out, hs]; rfl) (fun hs => by rw [HTT.out, mkP, ← HTT.out, ← HB0.out, hs]; rw [Bool.and_false]; rfl) h hs
  have HYES : Hid ((∀ (j : Nat) s, j < 2 → KL[j]? = some s → mkP (hasE E) s = true) → mkP (hasE E) t = true) := fun h => by
    rw [HKE.out] at h
    have y0 := h 0 _ (by decide) rfl
    have y1 := h 1 _ (by decide) rfl
    rw [HTT.out, mkP, ← HTT.out, ← HB0.out, y0, y1]
    rfl
  clear hBL hGL c0 c1 hWL hPB
  (try rw [lit6]); (try rw [lit7]); (try rw [lit8])
  go_loopw [32] (fun i wr => ∃ (k : Nat), k ≤ 2 ∧ i = .int .i64 k ∧ Hid (∀ (j : Nat) s, j < k → KL[j]? = some s → mkP (hasE E) s = true) ∧ Below w.heap.size w wr ∧ Hid (Below WL.heap.size WL wr)) (fun i _ => 2 - (intOf i).toNat)
  case atStart => exact ⟨0, Nat.zero_le _, rfl, (fun j t hj => absurd hj (Nat.not_lt_zero _)), HBL.out, Below.refl _ _⟩
  case round =>
    obtain ⟨k, hk, rfl, HA, hB, HBR⟩ := hrel
    have HBW : Hid (Below w.heap.size w wr) := hB
    clear hB
    by_cases hlt : k < 2
    · obtain ⟨s, ht⟩ : ∃ s, KL[k]? = some s := ⟨_, List.getElem?_eq_getElem (by rw [HKL.out]; exact hlt)⟩
      have hltI : (k : Int) < 2 := by omega
      obtain ⟨Tt, ut, hvt⟩ := val_iface s
      have d1 : wr.cell? ⟨PB, k, none⟩ = some (.iface Tt ut) := by
        rw [← hvt]
        exact (HBR.out.cell (p := ⟨PB, k, none⟩) HPB.out).trans (HCL.out k s ht)
      have HC : Hid (Calls Tryz.prog 46 #[.map (some B), .iface Tt ut] wr fun e w' => e = .returned (.bool (mkP (hasE E) s)) ∧ Below wr.heap.size wr w') := by
        have := HIH.out k s ht wr (HSL.out.below HBR.out) (HP.out.below HBW.out)
        rw [hvt] at this
        exact this
      obtain ⟨bt, hbt⟩ : ∃ bt, bt = mkP (hasE E) s := ⟨_, rfl⟩
      rw [← hbt] at HC
      have HBT : Hid (bt = mkP (hasE E) s) := hbt
      have HKT : Hid (KL[k]? = some s) := ht
      clear ht hvt hbt
      go_wp2_with fail
      refine HC.out.mono ?_
      rintro e w6 ⟨rfl, hB6⟩
      have HB6 : Hid (Below w.heap.size w w6) := HBW.out.trans (hB6.mono HBW.out.size)
      have HBR6 : Hid (Below WL.heap.size WL w6) := HBR.out.trans (hB6.mono HBR.out.size)
      clear hB6 d1
      cases bt with
      | false =>
        go_wp2
        go_ret
        exact ⟨ret_b (HNO.out k s HKT.out HBT.out.symm).symm, HB6.out⟩
      | true =>
        have HA2 : Hid (∀ (j : Nat) s, j < k + 1 → KL[j]? = some s → mkP (hasE E) s = true) := fun j u hj hu => by
          rcases Nat.lt_succ_iff_lt_or_eq.1 hj with h1 | rfl
          · exact HA.out j u h1 hu
          · rw [HKT.out] at hu; cases hu; exact HBT.out.symm
        go_wp2
        go_roundw
        case rel => exact ⟨k + 1, by omega, by go_num, HA2, HB6.out, HBR6⟩
        case measure => simp [intOf]; omega
    · have hke : k = 2 := by omega
      subst hke
      go_wp2
      go_ret
      exact ⟨ret_b (HYES.out HA.out).symm, HBW.out⟩

set_option maxRecDepth 8000 in
set_option maxHeartbeats 8000000 in
theorem made_keyed (k n : Nat) (a : Tr) (hfit : Fit (⟨.inr (.inr (.inr (k, n, a)))⟩ : Tr)) (ih1 : MadeC B nn E a) : MadeC B nn E (⟨.inr (.inr (.inr (k, n, a)))⟩ : Tr) := by
  intro w hSE hP
  obtain ⟨T1, u1, hv1⟩ := val_iface a
  obtain ⟨t, htt⟩ : ∃ t : Tr, t = (⟨.inr (.inr (.inr (k, n, a)))⟩ : Tr) := ⟨_, rfl⟩
  have hti : t.inn = .agg #[.int .i64 k, .int .i64 n, .iface T1 u1] := by rw [htt, Tr.inn, hv1]
  have htY : t.ty = 110 := by rw [htt, Tr.ty]
  have HX0 : TextC t := by rw [htt]; exact ttext_any _ hfit.1 hfit.2.1
  have hTs0 := Tr.txt_size _ hfit.1
  have hTs1 := hfit.2.1
  have HFIT : Hid (Fit (⟨.inr (.inr (.inr (k, n, a)))⟩ : Tr)) := hfit
  rw [← htt] at hTs0 hTs1 ⊢
  obtain ⟨T, hT⟩ : ∃ T, T = t.txt := ⟨_, rfl⟩
  obtain ⟨v, hv⟩ : ∃ v, v = t.inn := ⟨_, rfl⟩
  obtain ⟨ty, hty⟩ : ∃ ty, ty = t.ty := ⟨_, rfl⟩
  obtain ⟨fn, hfn⟩ : ∃ fn, fn = t.tf := ⟨_, rfl⟩
  have hm : ∀ w, (method 287 ty v "loop.example/g00318/impl.text").run Tryz.prog w = .ok (fn, v) w := fun w => by rw [hv, hty, hfn]; exact mText t w
  have hen : ∀ args w, (callFunc fn args).run Tryz.prog w = .ok (.enter fn args) w := by rw [hfn]; exact enText t
  have HX : Hid (Calls Tryz.prog fn #[v] w fun e w' => e = .returned (.string T) ∧ Below w.heap.size w w') := by
    have h1 := HX0 w hP
    rw [← hT, ← hfn, ← hv] at h1
    exact h1
  have HTV : Hid (ty = 110 ∧ v = .agg #[.int .i64 k, .int .i64 n, .iface T1 u1]) := ⟨hty.trans htY, hv.trans hti⟩
  rw [t.val_is, ← hv, ← hty]
  have hTs : T.size ≤ 9223372036854775807 := by rw [hT]; omega
  have HTT : Hid (t = (⟨.inr (.inr (.inr (k, n, a)))⟩ : Tr)) := htt
  have HP : Hid (Pow w) := hP
  have HSE : Hid (SetOf w B nn E) := hSE
  obtain ⟨b0, hb0⟩ : ∃ b0, b0 = hasE E t := ⟨_, rfl⟩
  have hb1 : has E (.string T.toList) = b0 := by rw [hb0, hT]; rfl
  have HB0 : Hid (b0 = hasE E t) := hb0
  clear hSE hP htt HX0 hT hti htY hv hty hfn hTs0 hTs1 hb0 hfit
  have A1 := noL_K
  have A2 := asK
  have A3 := mBelowK
  have HFN : Hid (n ≤ 999) := HFIT.out.1.2.1
  have HV : Hid (a.val = .iface T1 u1) := hv1
  clear hv1
  obtain ⟨KL, hKL⟩ : ∃ KL : List Tr, KL = [a] := ⟨_, rfl⟩
  have HKL : Hid (KL.length = 1) := by show _ = _; rw [hKL]; rfl
  have HIH : Hid (∀ (j : Nat) t, KL[j]? = some t → MadeC B nn E t) := fun j t h => by rw [hKL] at h; exact one_at (p := fun _ t => MadeC B nn E t) ih1 h
  have HKE : Hid (KL = [a]) := hKL
  clear hKL
  go_enter Tryz.func46, Tryz.ntmps46
  go_wp2_with fail
  refine HX.out.mono ?_
  rintro e w1 ⟨rfl, hB1⟩
  have HB1 : Hid (Below w.heap.size w w1) := hB1
  have HS1 : Hid (SetOf w1 B nn E) := HSE.out.below hB1
  clear hB1
  go_wp2_with fail
  refine (has71_any B nn E T w1 HS1.out hTs).mono ?_
  rintro e w2 ⟨rfl, hB2⟩
  rw [hb1]
  have HB2 : Hid (Below w.heap.size w w2) := HB1.out.trans (hB2.mono HB1.out.size)
  have HS2 : Hid (SetOf w2 B nn E) := HS1.out.below hB2
  clear hB2
  cases b0 with
  | true =>
    go_wp2
    go_ret
    exact ⟨ret_b (mkP_yes HB0.out.symm).symm, HB2.out⟩
  | false =>
  obtain ⟨e1, e2⟩ := HTV.out
  subst e1 e2
  go_wp2_with fail
  have HBK : Hid (Below w.heap.size w (w2.alloc (.cells #[.int .i64 k, .int .i64 n, .iface T1 u1] 110))) := HB2.out.alloc HB2.out.size _
  have HSK : Hid (SetOf (w2.alloc (.cells #[.int .i64 k, .int .i64 n, .iface T1 u1] 110)) B nn E) := HS2.out.below ((Below.refl _ _).alloc (Nat.le_refl _) _)
  refine (keyText_any n HFN.out _ (HP.out.below HBK.out)).mono ?_
  rintro e w3 ⟨rfl, hB3⟩
  have HB3 : Hid (Below w.heap.size w w3) := HBK.out.trans (hB3.mono HBK.out.size)
  have HS3 : Hid (SetOf w3 B nn E) := HSK.out.below hB3
  clear hB3
  obtain ⟨kb, hkb⟩ : ∃ kb, kb = hasE E (keyT n) := ⟨_, rfl⟩
  have hkc : has E (.string (keyT0 n).toList) = kb := by rw [hkb, ← keyT_txt]; rfl
  have HKB : Hid (kb = hasE E (keyT n)) := hkb
  have hks := keyT0_small n HFN.out
  obtain ⟨KT, hKT⟩ : ∃ KT, KT = keyT0 n := ⟨_, rfl⟩
  rw [← hKT] at hkc hks ⊢
  clear hkb hKT
  go_wp2_with fail
  refine (has71_any B nn E KT w3 HS3.out hks).mono ?_
  rintro e w4 ⟨rfl, hB4⟩
  rw [hkc]
  have HB4 : Hid (Below w.heap.size w w4) := HB3.out.trans (hB4.mono HB3.out.size)
  have HS4 : Hid (SetOf w4 B nn E) := HS3.out.below hB4
  clear hB4 hkc
  cases kb with
  | false =>
    go_wp2
    go_ret
    refine ⟨ret_b ?_, HB4.out⟩
    have h0 := HB0.out
    rw [HTT.out] at h0 ⊢
    rw [mkP, ← h0, ← HKB.out]
    rfl
  | true =>
  go_wp2
  obtain ⟨WL, hWL⟩ : ∃ WL, WL = ((w4).alloc (.cells #[.int .i64 k, .int .i64 n, .iface T1 u1] 110)).alloc (.cells #[.iface T1 u1] 69) := ⟨_, rfl⟩
  have hBL : Below w4.heap.size w4 WL := by rw [hWL]; exact ((Below.refl _ _).alloc (Nat.le_refl _) _).alloc (by simp) _
  obtain ⟨PB, hPB⟩ : ∃ PB, PB = w4.heap.size + 1 := ⟨_, rfl⟩
  have hGL : WL.heap[PB]? = some (.cells #[.iface T1 u1] 69 (0, 0)) := by rw [hWL, hPB]; have h1 := heap_alloc_new (w4.alloc (.cells #[.int .i64 k, .int .i64 n, .iface T1 u1] 110)) (.cells #[.iface T1 u1] 69); simpa using h1
  have HPB : Hid (PB < WL.heap.size) := lt_of_block hGL
  have c0 : WL.cell? ⟨PB, 0, none⟩ = _ := cell_of_row WL _ 0 _ _ _ hGL
  have HCL : Hid (∀ (k : Nat) s, KL[k]? = some s → WL.cell? ⟨PB, k, none⟩ = some s.val) := fun k s h => by rw [HKE.out] at h; exact one_at (p := fun k s => WL.cell? ⟨PB, k, none⟩ = some s.val) (c0.trans (congrArg some HV.out.symm)) h
  rw [← hWL, ← hPB]
  have HBL : Hid (Below w.heap.size w WL) := HB4.out.trans (hBL.mono HB4.out.size)
  have HSL : Hid (SetOf WL B nn E) := HS4.out.below hBL
  have HNO : Hid (∀ (k : Nat) s, KL[k]? = some s → mkP (hasE E) s = false → mkP (hasE E) t = false) := fun k s h hs => by
    rw [HKE.out] at h
    exact one_at (p := fun _ s => mkP (hasE E) s = false → mkP (hasE E) t = false) (fun hs => by rw [HTT.out, mkP, ← HTT.out, ← HB0.out, hs]; rw [Bool.and_false]; rfl) h hs
  have HYES : Hid ((∀ (j : Nat) s, j < 1 → KL[j]? = some s → mkP (hasE E) s = true) → mkP (hasE E) t = true) := fun h => by
    rw [HKE.out] at h
    have y0 := h 0 _ (by decide) rfl
    rw [HTT.out, mkP, ← HTT.out, ← HB0.out, ← HKB.out, y0]
    rfl
  clear hBL hGL c0 hWL hPB
  (try rw [lit6]); (try rw [lit7]); (try rw [lit8])
  go_loopw [32] (fun i wr => ∃ (k : Nat), k ≤ 1 ∧ i = .int .i64 k ∧ Hid (∀ (j : Nat) s, j < k → KL[j]? = some s → mkP (hasE E) s = true) ∧ Below w.heap.size w wr ∧ Hid (Below WL.heap.size WL wr)) (fun i _ => 1 - (intOf i).toNat)
  case atStart => exact ⟨0, Nat.zero_le _, rfl, (fun j t hj => absurd hj (Nat.not_lt_zero _)), HBL.out, Below.refl _ _⟩
  case round =>
    obtain ⟨k, hk, rfl, HA, hB, HBR⟩ := hrel
    have HBW : Hid (Below w.heap.size w wr) := hB
    clear hB
    by_cases hlt : k < 1
    · obtain ⟨s, ht⟩ : ∃ s, KL[k]? = some s := ⟨_, List.getElem?_eq_getElem (by rw [HKL.out]; exact hlt)⟩
      have hltI : (k : Int) < 1 := by omega
      obtain ⟨Tt, ut, hvt⟩ := val_iface s
      have d1 : wr.cell? ⟨PB, k, none⟩ = some (.iface Tt ut) := by
        rw [← hvt]
        exact (HBR.out.cell (p := ⟨PB, k, none⟩) HPB.out).trans (HCL.out k s ht)
      have HC : Hid (Calls Tryz.prog 46 #[.map (some B), .iface Tt ut] wr fun e w' => e = .returned (.bool (mkP (hasE E) s)) ∧ Below wr.heap.size wr w') := by
        have := HIH.out k s ht wr (HSL.out.below HBR.out) (HP.out.below HBW.out)
        rw [hvt] at this
        exact this
      obtain ⟨bt, hbt⟩ : ∃ bt, bt = mkP (hasE E) s := ⟨_, rfl⟩
      rw [← hbt] at HC
      have HBT : Hid (bt = mkP (hasE E) s) := hbt
      have HKT : Hid (KL[k]? = some s) := ht
      clear ht hvt hbt
      go_wp2_with fail
      refine HC.out.mono ?_
      rintro e w6 ⟨rfl, hB6⟩
      have HB6 : Hid (Below w.heap.size w w6) := HBW.out.trans (hB6.mono HBW.out.size)
      have HBR6 : Hid (Below WL.heap.size WL w6) := HBR.out.trans (hB6.mono HBR.out.size)
      clear hB6 d1
      cases bt with
      | false =>
        go_wp2
        go_ret
        exact ⟨ret_b (HNO.out k s HKT.out HBT.out.symm).symm, HB6.out⟩
      | true =>
        have HA2 : Hid (∀ (j : Nat) s, j < k + 1 → KL[j]? = some s → mkP (hasE E) s = true) := fun j u hj hu => by
          rcases Nat.lt_succ_iff_lt_or_eq.1 hj with h1 | rfl
          · exact HA.out j u h1 hu
          · rw [HKT.out] at hu; cases hu; exact HBT.out.symm
        go_wp2
        go_roundw
        case rel => exact ⟨k + 1, by omega, by go_num, HA2, HB6.out, HBR6⟩
        case measure => simp [intOf]; omega
    · have hke : k = 1 := by omega
      subst hke
      go_wp2
      go_ret
      exact ⟨ret_b (HYES.out HA.out).symm, HBW.out⟩

/-- the program's canBeMade at every right term -/
theorem canBeMade_any : ∀ (t : Tr), Fit t → MadeC B nn E t
  | ⟨.inl (k, n)⟩, h => made_leaf k n h
  | ⟨.inr (.inl u)⟩, h => made_hash u h (canBeMade_any u (h.kid (by simp [Tr.kids])))
  | ⟨.inr (.inr (.inl (a, b)))⟩, h => made_pair a b h (canBeMade_any a (h.kid (by simp [Tr.kids]))) (canBeMade_any b (h.kid (by simp [Tr.kids])))
  | ⟨.inr (.inr (.inr (k, n, a)))⟩, h => made_keyed k n a h (canBeMade_any a (h.kid (by simp [Tr.kids])))
end
end Go.Proofs.YtpcbhjejpebogaaGreatDoor
