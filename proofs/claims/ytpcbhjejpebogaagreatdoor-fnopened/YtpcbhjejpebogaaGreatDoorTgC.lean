/-
  The program's canBeMade: whether a term can be made of a set of texts. No condition but that the term is right and the table of powers of ten lies.
  The specification's l2Makes: whether a term can be made of what is opened. No condition but that the nodes and the list read.
  CanMake, the program's and the specification's: one answer. No condition but that the slice reads, the text is no longer than the law lets it be, and the table of powers of ten lies.
-/
import Derived.Test.YtpcbhjejpebogaaGreatDoorTgR
import Derived.Test.YtpcbhjejpebogaaGreatDoorTgS
namespace Go.Proofs.YtpcbhjejpebogaaGreatDoor
open Go.RowKit Go.Maps
set_option linter.unusedVariables false

/-- can be made of what P holds -/
def mkP (P : Tr → Bool) : Tr → Bool
  | ⟨.inl (k, n)⟩ => P ⟨.inl (k, n)⟩ || !((k : Int) == 2)
  | ⟨.inr (.inl u)⟩ => P ⟨.inr (.inl u)⟩ || mkP P u
  | ⟨.inr (.inr (.inl (a, b)))⟩ => P ⟨.inr (.inr (.inl (a, b)))⟩ || (mkP P a && mkP P b)
  | ⟨.inr (.inr (.inr (k, n, a)))⟩ => P ⟨.inr (.inr (.inr (k, n, a)))⟩ || (P (keyT n) && mkP P a)
theorem mkP_yes {P : Tr → Bool} : ∀ {t : Tr}, P t = true → mkP P t = true
  | ⟨.inl (k, n)⟩, h => by rw [mkP, h]; rfl
  | ⟨.inr (.inl u)⟩, h => by rw [mkP, h]; rfl
  | ⟨.inr (.inr (.inl (a, b)))⟩, h => by rw [mkP, h]; rfl
  | ⟨.inr (.inr (.inr (k, n, a)))⟩, h => by rw [mkP, h]; rfl
def hasE (E : DataW Value) (t : Tr) : Bool := has E (.string t.txt.toList)
/-- the program's answer at a term -/
def MadeC (B n : Nat) (E : DataW Value) (t : Tr) : Prop := ∀ w : World, SetOf w B n E → Pow w → Calls Tryz.prog 46 #[.map (some B), t.val] w fun e w' => e = .returned (.bool (mkP (hasE E) t)) ∧ Below w.heap.size w w'
theorem mBelowH (v : Value) (w : World) : (method 287 134 v "loop.example/g00318/impl.below").run Tryz.prog w = .ok (160, v) w := by kernel_rfl
theorem mBelowP (v : Value) (w : World) : (method 287 129 v "loop.example/g00318/impl.below").run Tryz.prog w = .ok (158, v) w := by kernel_rfl
theorem mBelowK (v : Value) (w : World) : (method 287 110 v "loop.example/g00318/impl.below").run Tryz.prog w = .ok (156, v) w := by kernel_rfl
theorem lit6 (a b c d e f : Value) : (#[a, b, c, d, e, f] : Array Value).getD 2 undef = c := rfl
theorem lit7 (a b c d e f g : Value) : (#[a, b, c, d, e, f, g] : Array Value).getD 2 undef = c := rfl
theorem lit8 (a b c d e f g h : Value) : (#[a, b, c, d, e, f, g, h] : Array Value).getD 2 undef = c := rfl
theorem noK_P (v : Value) (w : World) : (Instr.typeAssert (.iface 129 v) 69 110 true).run Tryz.prog w = .ok (.tuple #[.agg #[.int .i64 0, .int .i64 0, .nilIface], .bool false]) w := noK v w 129 (by decide)
theorem one_at {p : Nat → Tr → Prop} {u s : Tr} {j : Nat} (h : p 0 u) (hj : [u][j]? = some s) : p j s := by
  rcases j with _ | j
  · simp at hj; subst hj; exact h
  · simp at hj
theorem two_at {p : Nat → Tr → Prop} {u v s : Tr} {j : Nat} (h : p 0 u) (k : p 1 v) (hj : [u, v][j]? = some s) : p j s := by
  rcases j with _ | _ | j
  · simp at hj; subst hj; exact h
  · simp at hj; subst hj; exact k
  · simp at hj
theorem ret_b {a b : Bool} (h : a = b) : Ending.returned (.bool a) = .returned (.bool b) := by rw [h]
section
variable {B nn : Nat} {E : DataW Value}

set_option maxRecDepth 8000 in
set_option maxHeartbeats 8000000 in
theorem made_leaf (k n : Nat) (hfit : Fit (⟨.inl (k, n)⟩ : Tr)) : MadeC B nn E (⟨.inl (k, n)⟩ : Tr) := by
  intro w hSE hP
  obtain ⟨t, htt⟩ : ∃ t : Tr, t = (⟨.inl (k, n)⟩ : Tr) := ⟨_, rfl⟩
  have hti : t.inn = .agg #[.int .i64 k, .int .i64 n] := by rw [htt, Tr.inn]
  have htY : t.ty = 108 := by rw [htt, Tr.ty]
  have HX0 : TextC t := by rw [htt]; exact ttext_any _ hfit.1 hfit.2.1
  have hTs0 := Tr.txt_size _ hfit.1
  have hTs1 := hfit.2.1
  have HFIT : Hid (Fit (⟨.inl (k, n)⟩ : Tr)) := hfit
  rw [← htt] at hTs0 hTs1 ⊢
  obtain ⟨T, hT⟩ : ∃ T, T = t.txt := ⟨_, rfl⟩
  obtain ⟨v, hv⟩ : ∃ v, v = t.inn := ⟨_, rfl⟩
  obtain ⟨ty, hty⟩ : ∃ ty, ty = t.ty := ⟨_, rfl⟩
  obtain ⟨fn, hfn⟩ : ∃ fn, fn = t.tf := ⟨_, rfl⟩
  have hm : ∀ w, (method 287 ty v "loop.example/g00318/impl.text").run Tryz.prog w = .ok (fn, v) w := fun w => by rw [hv, hty, hfn]; exact mText t w
  have hen : ∀ args w, (callFunc fn args).run Tryz.prog w = .ok (.enter fn args) w := by rw [hfn]; exact enText t
  have HX : Hid (Calls Tryz.prog fn #[v] w fun e w' => e = .returned (.string T) ∧ Below w.heap.size w w') := by
    have h1 := HX0 w hP
    rw [← hT, ← hfn, ← hv] at h1
    exact h1
  have HTV : Hid (ty = 108 ∧ v = .agg #[.int .i64 k, .int .i64 n]) := ⟨hty.trans htY, hv.trans hti⟩
  rw [t.val_is, ← hv, ← hty]
  have hTs : T.size ≤ 9223372036854775807 := by rw [hT]; omega
  have HTT : Hid (t = (⟨.inl (k, n)⟩ : Tr)) := htt
  have HP : Hid (Pow w) := hP
  have HSE : Hid (SetOf w B nn E) := hSE
  obtain ⟨b0, hb0⟩ : ∃ b0, b0 = hasE E t := ⟨_, rfl⟩
  have hb1 : has E (.string T.toList) = b0 := by rw [hb0, hT]; rfl
  have HB0 : Hid (b0 = hasE E t) := hb0
  clear hSE hP htt HX0 hT hti htY hv hty hfn hTs0 hTs1 hb0 hfit
  have A1 := asL
  obtain ⟨kb, hkb⟩ : ∃ kb, kb = ((k : Int) == 2) := ⟨_, rfl⟩
  have HKB : Hid (kb = ((k : Int) == 2)) := hkb
  have hk2 : ((k : Int) != 2) = !kb := by rw [hkb]; rfl
  have hk3 : ((k : Int) == 2) = kb := hkb.symm
  clear hkb
  go_enter Tryz.func46, Tryz.ntmps46
  go_wp2_with fail
  refine HX.out.mono ?_
  rintro e w1 ⟨rfl, hB1⟩
  have HB1 : Hid (Below w.heap.size w w1) := hB1
  have HS1 : Hid (SetOf w1 B nn E) := HSE.out.below hB1
  clear hB1
  go_wp2_with fail
  refine (has71_any B nn E T w1 HS1.out hTs).mono ?_
  rintro e w2 ⟨rfl, hB2⟩
  rw [hb1]
  have HB2 : Hid (Below w.heap.size w w2) := HB1.out.trans (hB2.mono HB1.out.size)
  have HS2 : Hid (SetOf w2 B nn E) := HS1.out.below hB2
  clear hB2
  cases b0 with
  | true =>
    go_wp2
    go_ret
    exact ⟨ret_b (mkP_yes HB0.out.symm).symm, HB2.out⟩
  | false =>
  obtain ⟨e1, e2⟩ := HTV.out
  subst e1 e2
  go_wp2
  go_ret
  refine ⟨ret_b ?_, HB2.out.alloc HB2.out.size _⟩
  have h0 := HB0.out
  rw [HTT.out] at h0 ⊢
  rw [mkP, ← h0, ← HKB.out]
  rfl

set_option maxRecDepth 8000 in
set_option maxHeartbeats 8000000 in
theorem made_hash (u : Tr) (hfit : Fit (⟨.inr (.inl u)⟩ : Tr)) (ih1 : MadeC B nn E u) : MadeC B nn E (⟨.inr (.inl u)⟩ : Tr) := by
  intro w hSE hP
  obtain ⟨T1, u1, hv1⟩ := val_iface u
  obtain ⟨t, htt⟩ : ∃ t : Tr, t = (⟨.inr (.inl u)⟩ : Tr) := ⟨_, rfl⟩
  have hti : t.inn = .agg #[.iface T1 u1] := by rw [htt, Tr.inn, hv1]
  have htY : t.ty = 134 := by rw [htt, Tr.ty]
  have HX0 : TextC t := by rw [htt]; exact ttext_any _ hfit.1 hfit.2.1
  have hTs0 := Tr.txt_size _ hfit.1
  have hTs1 := hfit.2.1
  have HFIT : Hid (Fit (⟨.inr (.inl u)⟩ : Tr)) := hfit
  rw [← htt] at hTs0 hTs1 ⊢
  obtain ⟨T, hT⟩ : ∃ T, T = t.txt := ⟨_, rfl⟩
  obtain ⟨v, hv⟩ : ∃ v, v = t.inn := ⟨_, rfl⟩
  obtain ⟨ty, hty⟩ : ∃ ty, ty = t.ty := ⟨_, rfl⟩
  obtain ⟨fn, hfn⟩ : ∃ fn, fn = t.tf := ⟨_, rfl⟩
  have hm : ∀ w, (method 287 ty v "loop.example/g00318/impl.text").run Tryz.prog w = .ok (fn, v) w := fun w => by rw [hv, hty, hfn]; exact mText t w
  have hen : ∀ args w, (callFunc fn args).run Tryz.prog w = .ok (.enter fn args) w := by rw [hfn]; exact enText t
  have HX : Hid (Calls Tryz.prog fn #[v] w fun e w' => e = .returned (.string T) ∧ Below w.heap.size w w') := by
    have h1 := HX0 w hP
    rw [← hT, ← hfn, ← hv] at h1
    exact h1
  have HTV : Hid (ty = 134 ∧ v = .agg #[.iface T1 u1]) := ⟨hty.trans htY, hv.trans hti⟩
  rw [t.val_is, ← hv, ← hty]
  have hTs : T.size ≤ 9223372036854775807 := by rw [hT]; omega
  have HTT : Hid (t = (⟨.inr (.inl u)⟩ : Tr)) := htt
  have HP : Hid (Pow w) := hP
  have HSE : Hid (SetOf w B nn E) := hSE
  obtain ⟨b0, hb0⟩ : ∃ b0, b0 = hasE E t := ⟨_, rfl⟩
  have hb1 : has E (.string T.toList) = b0 := by rw [hb0, hT]; rfl
  have HB0 : Hid (b0 = hasE E t) := hb0
  clear hSE hP htt HX0 hT hti htY hv hty hfn hTs0 hTs1 hb0 hfit
  have A1 := noL_H
  have A2 := noK_H
  have A3 := mBelowH
  have HV : Hid (u.val = .iface T1 u1) := hv1
  clear hv1
  obtain ⟨KL, hKL⟩ : ∃ KL : List Tr, KL = [u] := ⟨_, rfl⟩
  have HKL : Hid (KL.length = 1) := by show _ = _; rw [hKL]; rfl
  have HIH : Hid (∀ (j : Nat) t, KL[j]? = some t → MadeC B nn E t) := fun j t h => by rw [hKL] at h; exact one_at (p := fun _ t => MadeC B nn E t) ih1 h
  have HKE : Hid (KL = [u]) := hKL
  clear hKL
  go_enter Tryz.func46, Tryz.ntmps46
  go_wp2_with fail
  refine HX.out.mono ?_
  rintro e w1 ⟨rfl, hB1⟩
  have HB1 : Hid (Below w.heap.size w w1) := hB1
  have HS1 : Hid (SetOf w1 B nn E) := HSE.out.below hB1
  clear hB1
  go_wp2_with fail
  refine (has71_any B nn E T w1 HS1.out hTs).mono ?_
  rintro e w2 ⟨rfl, hB2⟩
  rw [hb1]
  have HB2 : Hid (Below w.heap.size w w2) := HB1.out.trans (hB2.mono HB1.out.size)
  have HS2 : Hid (SetOf w2 B nn E) := HS1.out.below hB2
  clear hB2
  cases b0 with
  | true =>
    go_wp2
    go_ret
    exact ⟨ret_b (mkP_yes HB0.out.symm).symm, HB2.out⟩
  | false =>
  obtain ⟨e1, e2⟩ := HTV.out
  subst e1 e2
  go_wp2
  obtain ⟨WL, hWL⟩ : ∃ WL, WL = ((w2).alloc (.cells #[.iface T1 u1] 134)).alloc (.cells #[.iface T1 u1] 69) := ⟨_, rfl⟩
  have hBL : Below w2.heap.size w2 WL := by rw [hWL]; exact ((Below.refl _ _).alloc (Nat.le_refl _) _).alloc (by simp) _
  obtain ⟨PB, hPB⟩ : ∃ PB, PB = w2.heap.size + 1 := ⟨_, rfl⟩
  have hGL : WL.heap[PB]? = some (.cells #[.iface T1 u1] 69 (0, 0)) := by rw [hWL, hPB]; have h1 := heap_alloc_new (w2.alloc (.cells #[.iface T1 u1] 134)) (.cells #[.iface T1 u1] 69); simpa using h1
  have HPB : Hid (PB < WL.heap.size) := lt_of_block hGL
  have c0 : WL.cell? ⟨PB, 0, none⟩ = _ := cell_of_row WL _ 0 _ _ _ hGL
  have HCL : Hid (∀ (k : Nat) s, KL[k]? = some s → WL.cell? ⟨PB, k, none⟩ = some s.val) := fun k s h => by rw [HKE.out] at h; exact one_at (p := fun k s => WL.cell? ⟨PB, k, none⟩ = some s.val) (c0.trans (congrArg some HV.out.symm)) h
  rw [← hWL, ← hPB]
  have HBL : Hid (Below w.heap.size w WL) := HB2.out.trans (hBL.mono HB2.out.size)
  have HSL : Hid (SetOf WL B nn E) := HS2.out.below hBL
  have HNO : Hid (∀ (k : Nat) s, KL[k]? = some s → mkP (hasE E) s = false → mkP (hasE E) t = false) := fun k s h hs => by
    rw [HKE.out] at h
    exact one_at (p := fun _ s => mkP (hasE E) s = false → mkP (hasE E) t = false) (fun hs => by rw [HTT.out, mkP, ← HTT.out, ← HB0.out, hs]; rfl) h hs
  have HYES : Hid ((∀ (j : Nat) s, j < 1 → KL[j]? = some s → mkP (hasE E) s = true) → mkP (hasE E) t = true) := fun h => by
    rw [HKE.out] at h
    have y0 := h 0 _ (by decide) rfl
    rw [HTT.out, mkP, ← HTT.out, ← HB0.out, y0]
    rfl
  clear hBL hGL c0 hWL hPB
  (try rw [lit6]); (try rw [lit7]); (try rw [lit8])
  go_loopw [32] (fun i wr => ∃ (k : Nat), k ≤ 1 ∧ i = .int .i64 k ∧ Hid (∀ (j : Nat) s, j < k → KL[j]? = some s → mkP (hasE E) s = true) ∧ Below w.heap.size w wr ∧ Hid (Below WL.heap.size WL wr)) (fun i _ => 1 - (intOf i).toNat)
  case atStart => exact ⟨0, Nat.zero_le _, rfl, (fun j t hj => absurd hj (Nat.not_lt_zero _)), HBL.out, Below.refl _ _⟩
  case round =>
    obtain ⟨k, hk, rfl, HA, hB, HBR⟩ := hrel
    have HBW : Hid (Below w.heap.size w wr) := hB
    clear hB
    by_cases hlt : k < 1
    · obtain ⟨s, ht⟩ : ∃ s, KL[k]? = some s := ⟨_, List.getElem?_eq_getElem (by rw [HKL.out]; exact hlt)⟩
      have hltI : (k : Int) < 1 := by omega
      obtain ⟨Tt, ut, hvt⟩ := val_iface s
      have d1 : wr.cell? ⟨PB, k, none⟩ = some (.iface Tt ut) := by
        rw [← hvt]
        exact (HBR.out.cell (p := ⟨PB, k, none⟩) HPB.out).trans (HCL.out k s ht)
      have HC : Hid (Calls Tryz.prog 46 #[.map (some B), .iface Tt ut] wr fun e w' => e = .returned (.bool (mkP (hasE E) s)) ∧ Below wr.heap.size wr w') := by
        have := HIH.out k s ht wr (HSL.out.below HBR.out) (HP.out.below HBW.out)
        rw [hvt] at this
        exact this
      obtain ⟨bt, hbt⟩ : ∃ bt, bt = mkP (hasE E) s := ⟨_, rfl⟩
      rw [← hbt] at HC
      have HBT : Hid (bt = mkP (hasE E) s) := hbt
      have HKT : Hid (KL[k]? = some s) := ht
      clear ht hvt hbt
      go_wp2_with fail
      refine HC.out.mono ?_
      rintro e w6 ⟨rfl, hB6⟩
      have HB6 : Hid (Below w.heap.size w w6) := HBW.out.trans (hB6.mono HBW.out.size)
      have HBR6 : Hid (Below WL.heap.size WL w6) := HBR.out.trans (hB6.mono HBR.out.size)
      clear hB6 d1
      cases bt with
      | false =>
        go_wp2
        go_ret
        exact ⟨ret_b (HNO.out k s HKT.out HBT.out.symm).symm, HB6.out⟩
      | true =>
        have HA2 : Hid (∀ (j : Nat) s, j < k + 1 → KL[j]? = some s → mkP (hasE E) s = true) := fun j u hj hu => by
          rcases Nat.lt_succ_iff_lt_or_eq.1 hj with h1 | rfl
          · exact HA.out j u h1 hu
          · rw [HKT.out] at hu; cases hu; exact HBT.out.symm
        go_wp2
        go_roundw
        case rel => exact ⟨k + 1, by omega, by go_num, HA2, HB6.out, HBR6⟩
        case measure => simp [intOf]; omega
    · have hke : k = 1 := by omega
      subst hke
      go_wp2
      go_ret
      exact ⟨ret_b (HYES.out HA.out).symm, HBW.out⟩

set_option maxRecDepth 8000 in
set_option maxHeartbeats 8000000 in
theorem made_pair (a b : Tr) (hfit : Fit (⟨.inr (.inr (.inl (a, b)))⟩ : Tr)) (ih1 : MadeC B nn E a) (ih2 : MadeC B nn E b) : MadeC B nn E (⟨.inr (.inr (.inl (a, b)))⟩ : Tr) := by
  intro w hSE hP
  obtain ⟨T1, u1, hv1⟩ := val_iface a
  obtain ⟨T2, u2, hv2⟩ := val_iface b
  obtain ⟨t, htt⟩ : ∃ t : Tr, t = (⟨.inr (.inr (.inl (a, b)))⟩ : Tr) := ⟨_, rfl⟩
  have hti : t.inn = .agg #[.iface T1 u1, .iface T2 u2] := by rw [htt, Tr.inn, hv1, hv2]
  have htY : t.ty = 129 := by rw [htt, Tr.ty]
  have HX0 : TextC t := by rw [htt]; exact ttext_any _ hfit.1 hfit.2.1
  have hTs0 := Tr.txt_size _ hfit.1
  have hTs1 := hfit.2.1
  have HFIT : Hid (Fit (⟨.inr (.inr (.inl (a, b)))⟩ : Tr)) := hfit
  rw [← htt] at hTs0 hTs1 ⊢
  obtain ⟨T, hT⟩ : ∃ T, T = t.txt := ⟨_, rfl⟩
  obtain ⟨v, hv⟩ : ∃ v, v = t.inn := ⟨_, rfl⟩
  obtain ⟨ty, hty⟩ : ∃ ty, ty = t.ty := ⟨_, rfl⟩
  obtain ⟨fn, hfn⟩ : ∃ fn, fn = t.tf := ⟨_, rfl⟩
  have hm : ∀ w, (method 287 ty v "loop.example/g00318/impl.text").run Tryz.prog w = .ok (fn, v) w := fun w => by rw [hv, hty, hfn]; exact mText t w
  have hen : ∀ args w, (callFunc fn args).run Tryz.prog w = .ok (.enter fn args) w := by rw [hfn]; exact enText t
  have HX : Hid (Calls Tryz.prog fn #[v] w fun e w' => e = .returned (.string T) ∧ Below w.heap.size w w') := by
    have h1 := HX0 w hP
    rw [← hT, ← hfn, ← hv] at h1
    exact h1
  have HTV : Hid (ty = 129 ∧ v = .agg #[.iface T1 u1, .iface T2 u2]) := ⟨hty.trans htY, hv.trans hti⟩
  rw [t.val_is, ← hv, ← hty]
  have hTs : T.size ≤ 9223372036854775807 := by rw [hT]; omega
  have HTT : Hid (t = (⟨.inr (.inr (.inl (a, b)))⟩ : Tr)) := htt
  have HP : Hid (Pow w) := hP
  have HSE : Hid (SetOf w B nn E) := hSE
  obtain ⟨b0, hb0⟩ : ∃ b0, b0 = hasE E t := ⟨_, rfl⟩
  have hb1 : has E (.string T.toList) = b0 := by rw [hb0, hT]; rfl
  have HB0 : Hid (b0 = hasE E t) := hb0
  clear hSE hP htt HX0 hT hti htY hv hty hfn hTs0 hTs1 hb0 hfit
  have A1 := noL_P
  have A2 := noK_P
  have A3 := mBelowP
  have HV : Hid (a.val = .iface T1 u1 ∧ b.val = .iface T2 u2) := ⟨hv1, hv2⟩
  clear hv1 hv2
  obtain ⟨KL, hKL⟩ : ∃ KL : List Tr, KL = [a, b] := ⟨_, rfl⟩
  have HKL : Hid (KL.length = 2) := by show _ = _; rw [hKL]; rfl
  have HIH : Hid (∀ (j : Nat) t, KL[j]? = some t → MadeC B nn E t) := fun j t h => by rw [hKL] at h; exact two_at (p := fun _ t => MadeC B nn E t) ih1 ih2 h
  have HKE : Hid (KL = [a, b]) := hKL
  clear hKL
  go_enter Tryz.func46, Tryz.ntmps46
  go_wp2_with fail
  refine HX.out.mono ?_
  rintro e w1 ⟨rfl, hB1⟩
  have HB1 : Hid (Below w.heap.size w w1) := hB1
  have HS1 : Hid (SetOf w1 B nn E) := HSE.out.below hB1
  clear hB1
  go_wp2_with fail
  refine (has71_any B nn E T w1 HS1.out hTs).mono ?_
  rintro e w2 ⟨rfl, hB2⟩
  rw [hb1]
  have HB2 : Hid (Below w.heap.size w w2) := HB1.out.trans (hB2.mono HB1.out.size)
  have HS2 : Hid (SetOf w2 B nn E) := HS1.out.below hB2
  clear hB2
  cases b0 with
  | true =>
    go_wp2
    go_ret
    exact ⟨ret_b (mkP_yes HB0.out.symm).symm, HB2.out⟩
  | false =>
  obtain ⟨e1, e2⟩ := HTV.out
  subst e1 e2
  go_wp2
  obtain ⟨WL, hWL⟩ : ∃ WL, WL = ((w2).alloc (.cells #[.iface T1 u1, .iface T2 u2] 129)).alloc (.cells #[.iface T1 u1, .iface T2 u2] 69) := ⟨_, rfl⟩
  have hBL : Below w2.heap.size w2 WL := by rw [hWL]; exact ((Below.refl _ _).alloc (Nat.le_refl _) _).alloc (by simp) _
  obtain ⟨PB, hPB⟩ : ∃ PB, PB = w2.heap.size + 1 := ⟨_, rfl⟩
  have hGL : WL.heap[PB]? = some (.cells #[.iface T1 u1, .iface T2 u2] 69 (0, 0)) := by rw [hWL, hPB]; have h1 := heap_alloc_new (w2.alloc (.cells #[.iface T1 u1, .iface T2 u2] 129)) (.cells #[.iface T1 u1, .iface T2 u2] 69); simpa using h1
  have HPB : Hid (PB < WL.heap.size) := lt_of_block hGL
  have c0 : WL.cell? ⟨PB, 0, none⟩ = _ := cell_of_row WL _ 0 _ _ _ hGL
  have c1 : WL.cell? ⟨PB, 1, none⟩ = _ := cell_of_row WL _ 1 _ _ _ hGL
  have HCL : Hid (∀ (k : Nat) s, KL[k]? = some s → WL.cell? ⟨PB, k, none⟩ = some s.val) := fun k s h => by rw [HKE.out] at h; exact two_at (p := fun k s => WL.cell? ⟨PB, k, none⟩ = some s.val) (c0.trans (congrArg some HV.out.1.symm)) (c1.trans (congrArg some HV.out.2.symm)) h
  rw [← hWL, ← hPB]
  have HBL : Hid (Below w.heap.size w WL) := HB2.out.trans (hBL.mono HB2.out.size)
  have HSL : Hid (SetOf WL B nn E) := HS2.out.below hBL
  have HNO : Hid (∀ (k : Nat) s, KL[k]? = some s → mkP (hasE E) s = false → mkP (hasE E) t = false) := fun k s h hs => by
    rw [HKE.out] at h
    exact two_at (p := fun _ s => mkP (hasE E) s = false → mkP (hasE E) t = false) (fun hs => by rw [HTT.out, mkP, ← HTT.out, ← HB0.out, hs]; rfl) (fun hs => by rw [HTT.out, mkP, ← HTT.out, ← HB0.out, hs]; rw [Bool.and_false]; rfl) h hs
  have HYES : Hid ((∀ (j : Nat) s, j < 2 → KL[j]? = some s → mkP (hasE E) s = true) → mkP (hasE E) t = true) := fun h => by
    rw [HKE.out] at h
    have y0 := h 0 _ (by decide) rfl
    have y1 := h 1 _ (by decide) rfl
    rw [HTT.out, mkP, ← HTT.out, ← HB0.out, y0, y1]
    rfl
  clear hBL hGL c0 c1 hWL hPB
  (try rw [lit6]); (try rw [lit7]); (try rw [lit8])
  go_loopw [32] (fun i wr => ∃ (k : Nat), k ≤ 2 ∧ i = .int .i64 k ∧ Hid (∀ (j : Nat) s, j < k → KL[j]? = some s → mkP (hasE E) s = true) ∧ Below w.heap.size w wr ∧ Hid (Below WL.heap.size WL wr)) (fun i _ => 2 - (intOf i).toNat)
  case atStart => exact ⟨0, Nat.zero_le _, rfl, (fun j t hj => absurd hj (Nat.not_lt_zero _)), HBL.out, Below.refl _ _⟩
  case round =>
    obtain ⟨k, hk, rfl, HA, hB, HBR⟩ := hrel
    have HBW : Hid (Below w.heap.size w wr) := hB
    clear hB
    by_cases hlt : k < 2
    · obtain ⟨s, ht⟩ : ∃ s, KL[k]? = some s := ⟨_, List.getElem?_eq_getElem (by rw [HKL.out]; exact hlt)⟩
      have hltI : (k : Int) < 2 := by omega
      obtain ⟨Tt, ut, hvt⟩ := val_iface s
      have d1 : wr.cell? ⟨PB, k, none⟩ = some (.iface Tt ut) := by
        rw [← hvt]
        exact (HBR.out.cell (p := ⟨PB, k, none⟩) HPB.out).trans (HCL.out k s ht)
      have HC : Hid (Calls Tryz.prog 46 #[.map (some B), .iface Tt ut] wr fun e w' => e = .returned (.bool (mkP (hasE E) s)) ∧ Below wr.heap.size wr w') := by
        have := HIH.out k s ht wr (HSL.out.below HBR.out) (HP.out.below HBW.out)
        rw [hvt] at this
        exact this
      obtain ⟨bt, hbt⟩ : ∃ bt, bt = mkP (hasE E) s := ⟨_, rfl⟩
      rw [← hbt] at HC
      have HBT : Hid (bt = mkP (hasE E) s) := hbt
      have HKT : Hid (KL[k]? = some s) := ht
      clear ht hvt hbt
      go_wp2_with fail
      refine HC.out.mono ?_
      rintro e w6 ⟨rfl, hB6⟩
      have HB6 : Hid (Below w.heap.size w w6) := HBW.out.trans (hB6.mono HBW.out.size)
      have HBR6 : Hid (Below WL.heap.size WL w6) := HBR.out.trans (hB6.mono HBR.out.size)
      clear hB6 d1
      cases bt with
      | false =>
        go_wp2
        go_ret
        exact ⟨ret_b (HNO.out k s HKT.out HBT.out.symm).symm, HB6.out⟩
      | true =>
        have HA2 : Hid (∀ (j : Nat) s, j < k + 1 → KL[j]? = some s → mkP (hasE E) s = true) := fun j u hj hu => by
          rcases Nat.lt_succ_iff_lt_or_eq.1 hj with h1 | rfl
          · exact HA.out j u h1 hu
          · rw [HKT.out] at hu; cases hu; exact HBT.out.symm
        go_wp2
        go_roundw
        case rel => exact ⟨k + 1, by omega, by go_num, HA2, HB6.out, HBR6⟩
        case measure => simp [intOf]; omega
    · have hke : k = 2 := by omega
      subst hke
      go_wp2
      go_ret
      exact ⟨ret_b (HYES.out HA.out).symm, HBW.out⟩

set_option maxRecDepth 8000 in
set_option maxHeartbeats 8000000 in
theorem made_keyed (k n : Nat) (a : Tr) (hfit : Fit (⟨.inr (.inr (.inr (k, n, a)))⟩ : Tr)) (ih1 : MadeC B nn E a) : MadeC B nn E (⟨.inr (.inr (.inr (k, n, a)))⟩ : Tr) := by
  intro w hSE hP
  obtain ⟨T1, u1, hv1⟩ := val_iface a
  obtain ⟨t, htt⟩ : ∃ t : Tr, t = (⟨.inr (.inr (.inr (k, n, a)))⟩ : Tr) := ⟨_, rfl⟩
  have hti : t.inn = .agg #[.int .i64 k, .int .i64 n, .iface T1 u1] := by rw [htt, Tr.inn, hv1]
  have htY : t.ty = 110 := by rw [htt, Tr.ty]
  have HX0 : TextC t := by rw [htt]; exact ttext_any _ hfit.1 hfit.2.1
  have hTs0 := Tr.txt_size _ hfit.1
  have hTs1 := hfit.2.1
  have HFIT : Hid (Fit (⟨.inr (.inr (.inr (k, n, a)))⟩ : Tr)) := hfit
  rw [← htt] at hTs0 hTs1 ⊢
  obtain ⟨T, hT⟩ : ∃ T, T = t.txt := ⟨_, rfl⟩
  obtain ⟨v, hv⟩ : ∃ v, v = t.inn := ⟨_, rfl⟩
  obtain ⟨ty, hty⟩ : ∃ ty, ty = t.ty := ⟨_, rfl⟩
  obtain ⟨fn, hfn⟩ : ∃ fn, fn = t.tf := ⟨_, rfl⟩
  have hm : ∀ w, (method 287 ty v "loop.example/g00318/impl.text").run Tryz.prog w = .ok (fn, v) w := fun w => by rw [hv, hty, hfn]; exact mText t w
  have hen : ∀ args w, (callFunc fn args).run Tryz.prog w = .ok (.enter fn args) w := by rw [hfn]; exact enText t
  have HX : Hid (Calls Tryz.prog fn #[v] w fun e w' => e = .returned (.string T) ∧ Below w.heap.size w w') := by
    have h1 := HX0 w hP
    rw [← hT, ← hfn, ← hv] at h1
    exact h1
  have HTV : Hid (ty = 110 ∧ v = .agg #[.int .i64 k, .int .i64 n, .iface T1 u1]) := ⟨hty.trans htY, hv.trans hti⟩
  rw [t.val_is, ← hv, ← hty]
  have hTs : T.size ≤ 9223372036854775807 := by rw [hT]; omega
  have HTT : Hid (t = (⟨.inr (.inr (.inr (k, n, a)))⟩ : Tr)) := htt
  have HP : Hid (Pow w) := hP
  have HSE : Hid (SetOf w B nn E) := hSE
  obtain ⟨b0, hb0⟩ : ∃ b0, b0 = hasE E t := ⟨_, rfl⟩
  have hb1 : has E (.string T.toList) = b0 := by rw [hb0, hT]; rfl
  have HB0 : Hid (b0 = hasE E t) := hb0
  clear hSE hP htt HX0 hT hti htY hv hty hfn hTs0 hTs1 hb0 hfit
  have A1 := noL_K
  have A2 := asK
  have A3 := mBelowK
  have HFN : Hid (n ≤ 999) := HFIT.out.1.2.1
  have HV : Hid (a.val = .iface T1 u1) := hv1
  clear hv1
  obtain ⟨KL, hKL⟩ : ∃ KL : List Tr, KL = [a] := ⟨_, rfl⟩
  have HKL : Hid (KL.length = 1) := by show _ = _; rw [hKL]; rfl
  have HIH : Hid (∀ (j : Nat) t, KL[j]? = some t → MadeC B nn E t) := fun j t h => by rw [hKL] at h; exact one_at (p := fun _ t => MadeC B nn E t) ih1 h
  have HKE : Hid (KL = [a]) := hKL
  clear hKL
  go_enter Tryz.func46, Tryz.ntmps46
  go_wp2_with fail
  refine HX.out.mono ?_
  rintro e w1 ⟨rfl, hB1⟩
  have HB1 : Hid (Below w.heap.size w w1) := hB1
  have HS1 : Hid (SetOf w1 B nn E) := HSE.out.below hB1
  clear hB1
  go_wp2_with fail
  refine (has71_any B nn E T w1 HS1.out hTs).mono ?_
  rintro e w2 ⟨rfl, hB2⟩
  rw [hb1]
  have HB2 : Hid (Below w.heap.size w w2) := HB1.out.trans (hB2.mono HB1.out.size)
  have HS2 : Hid (SetOf w2 B nn E) := HS1.out.below hB2
  clear hB2
  cases b0 with
  | true =>
    go_wp2
    go_ret
    exact ⟨ret_b (mkP_yes HB0.out.symm).symm, HB2.out⟩
  | false =>
  obtain ⟨e1, e2⟩ := HTV.out
  subst e1 e2
  go_wp2_with fail
  have HBK : Hid (Below w.heap.size w (w2.alloc (.cells #[.int .i64 k, .int .i64 n, .iface T1 u1] 110))) := HB2.out.alloc HB2.out.size _
  have HSK : Hid (SetOf (w2.alloc (.cells #[.int .i64 k, .int .i64 n, .iface T1 u1] 110)) B nn E) := HS2.out.below ((Below.refl _ _).alloc (Nat.le_refl _) _)
  refine (keyText_any n HFN.out _ (HP.out.below HBK.out)).mono ?_
  rintro e w3 ⟨rfl, hB3⟩
  have HB3 : Hid (Below w.heap.size w w3) := HBK.out.trans (hB3.mono HBK.out.size)
  have HS3 : Hid (SetOf w3 B nn E) := HSK.out.below hB3
  clear hB3
  obtain ⟨kb, hkb⟩ : ∃ kb, kb = hasE E (keyT n) := ⟨_, rfl⟩
  have hkc : has E (.string (keyT0 n).toList) = kb := by rw [hkb, ← keyT_txt]; rfl
  have HKB : Hid (kb = hasE E (keyT n)) := hkb
  have hks := keyT0_small n HFN.out
  obtain ⟨KT, hKT⟩ : ∃ KT, KT = keyT0 n := ⟨_, rfl⟩
  rw [← hKT] at hkc hks ⊢
  clear hkb hKT
  go_wp2_with fail
  refine (has71_any B nn E KT w3 HS3.out hks).mono ?_
  rintro e w4 ⟨rfl, hB4⟩
  rw [hkc]
  have HB4 : Hid (Below w.heap.size w w4) := HB3.out.trans (hB4.mono HB3.out.size)
  have HS4 : Hid (SetOf w4 B nn E) := HS3.out.below hB4
  clear hB4 hkc
  cases kb with
  | false =>
    go_wp2
    go_ret
    refine ⟨ret_b ?_, HB4.out⟩
    have h0 := HB0.out
    rw [HTT.out] at h0 ⊢
    rw [mkP, ← h0, ← HKB.out]
    rfl
  | true =>
  go_wp2
  obtain ⟨WL, hWL⟩ : ∃ WL, WL = ((w4).alloc (.cells #[.int .i64 k, .int .i64 n, .iface T1 u1] 110)).alloc (.cells #[.iface T1 u1] 69) := ⟨_, rfl⟩
  have hBL : Below w4.heap.size w4 WL := by rw [hWL]; exact ((Below.refl _ _).alloc (Nat.le_refl _) _).alloc (by simp) _
  obtain ⟨PB, hPB⟩ : ∃ PB, PB = w4.heap.size + 1 := ⟨_, rfl⟩
  have hGL : WL.heap[PB]? = some (.cells #[.iface T1 u1] 69 (0, 0)) := by rw [hWL, hPB]; have h1 := heap_alloc_new (w4.alloc (.cells #[.int .i64 k, .int .i64 n, .iface T1 u1] 110)) (.cells #[.iface T1 u1] 69); simpa using h1
  have HPB : Hid (PB < WL.heap.size) := lt_of_block hGL
  have c0 : WL.cell? ⟨PB, 0, none⟩ = _ := cell_of_row WL _ 0 _ _ _ hGL
  have HCL : Hid (∀ (k : Nat) s, KL[k]? = some s → WL.cell? ⟨PB, k, none⟩ = some s.val) := fun k s h => by rw [HKE.out] at h; exact one_at (p := fun k s => WL.cell? ⟨PB, k, none⟩ = some s.val) (c0.trans (congrArg some HV.out.symm)) h
  rw [← hWL, ← hPB]
  have HBL : Hid (Below w.heap.size w WL) := HB4.out.trans (hBL.mono HB4.out.size)
  have HSL : Hid (SetOf WL B nn E) := HS4.out.below hBL
  have HNO : Hid (∀ (k : Nat) s, KL[k]? = some s → mkP (hasE E) s = false → mkP (hasE E) t = false) := fun k s h hs => by
    rw [HKE.out] at h
    exact one_at (p := fun _ s => mkP (hasE E) s = false → mkP (hasE E) t = false) (fun hs => by rw [HTT.out, mkP, ← HTT.out, ← HB0.out, hs]; rw [Bool.and_false]; rfl) h hs
  have HYES : Hid ((∀ (j : Nat) s, j < 1 → KL[j]? = some s → mkP (hasE E) s = true) → mkP (hasE E) t = true) := fun h => by
    rw [HKE.out] at h
    have y0 := h 0 _ (by decide) rfl
    rw [HTT.out, mkP, ← HTT.out, ← HB0.out, ← HKB.out, y0]
    rfl
  clear hBL hGL c0 hWL hPB
  (try rw [lit6]); (try rw [lit7]); (try rw [lit8])
  go_loopw [32] (fun i wr => ∃ (k : Nat), k ≤ 1 ∧ i = .int .i64 k ∧ Hid (∀ (j : Nat) s, j < k → KL[j]? = some s → mkP (hasE E) s = true) ∧ Below w.heap.size w wr ∧ Hid (Below WL.heap.size WL wr)) (fun i _ => 1 - (intOf i).toNat)
  case atStart => exact ⟨0, Nat.zero_le _, rfl, (fun j t hj => absurd hj (Nat.not_lt_zero _)), HBL.out, Below.refl _ _⟩
  case round =>
    obtain ⟨k, hk, rfl, HA, hB, HBR⟩ := hrel
    have HBW : Hid (Below w.heap.size w wr) := hB
    clear hB
    by_cases hlt : k < 1
    · obtain ⟨s, ht⟩ : ∃ s, KL[k]? = some s := ⟨_, List.getElem?_eq_getElem (by rw [HKL.out]; exact hlt)⟩
      have hltI : (k : Int) < 1 := by omega
      obtain ⟨Tt, ut, hvt⟩ := val_iface s
      have d1 : wr.cell? ⟨PB, k, none⟩ = some (.iface Tt ut) := by
        rw [← hvt]
        exact (HBR.out.cell (p := ⟨PB, k, none⟩) HPB.out).trans (HCL.out k s ht)
      have HC : Hid (Calls Tryz.prog 46 #[.map (some B), .iface Tt ut] wr fun e w' => e = .returned (.bool (mkP (hasE E) s)) ∧ Below wr.heap.size wr w') := by
        have := HIH.out k s ht wr (HSL.out.below HBR.out) (HP.out.below HBW.out)
        rw [hvt] at this
        exact this
      obtain ⟨bt, hbt⟩ : ∃ bt, bt = mkP (hasE E) s := ⟨_, rfl⟩
      rw [← hbt] at HC
      have HBT : Hid (bt = mkP (hasE E) s) := hbt
      have HKT : Hid (KL[k]? = some s) := ht
      clear ht hvt hbt
      go_wp2_with fail
      refine HC.out.mono ?_
      rintro e w6 ⟨rfl, hB6⟩
      have HB6 : Hid (Below w.heap.size w w6) := HBW.out.trans (hB6.mono HBW.out.size)
      have HBR6 : Hid (Below WL.heap.size WL w6) := HBR.out.trans (hB6.mono HBR.out.size)
      clear hB6 d1
      cases bt with
      | false =>
        go_wp2
        go_ret
        exact ⟨ret_b (HNO.out k s HKT.out HBT.out.symm).symm, HB6.out⟩
      | true =>
        have HA2 : Hid (∀ (j : Nat) s, j < k + 1 → KL[j]? = some s → mkP (hasE E) s = true) := fun j u hj hu => by
          rcases Nat.lt_succ_iff_lt_or_eq.1 hj with h1 | rfl
          · exact HA.out j u h1 hu
          · rw [HKT.out] at hu; cases hu; exact HBT.out.symm
        go_wp2
        go_roundw
        case rel => exact ⟨k + 1, by omega, by go_num, HA2, HB6.out, HBR6⟩
        case measure => simp [intOf]; omega
    · have hke : k = 1 := by omega
      subst hke
      go_wp2
      go_ret
      exact ⟨ret_b (HYES.out HA.out).symm, HBW.out⟩

/-- the program's canBeMade at every right term -/
theorem canBeMade_any : ∀ (t : Tr), Fit t → MadeC B nn E t
  | ⟨.inl (k, n)⟩, h => made_leaf k n h
  | ⟨.inr (.inl u)⟩, h => made_hash u h (canBeMade_any u (h.kid (by simp [Tr.kids])))
  | ⟨.inr (.inr (.inl (a, b)))⟩, h => made_pair a b h (canBeMade_any a (h.kid (by simp [Tr.kids]))) (canBeMade_any b (h.kid (by simp [Tr.kids])))
  | ⟨.inr (.inr (.inr (k, n, a)))⟩, h => made_keyed k n a h (canBeMade_any a (h.kid (by simp [Tr.kids])))
end
end Go.Proofs.YtpcbhjejpebogaaGreatDoor

namespace Go.Proofs.YtpcbhjejpebogaaGreatDoor
open Go.RowKit Go.Maps
set_option linter.unusedVariables false

def inM (M : List (List UInt8)) (t : Tr) : Bool := decide (t.txt.toList ∈ M)
section
variable {Kd N A B : Nat → Int} {a : Option Addr} {len cap base g gc : Nat} {M : List (List UInt8)}
/-- the specification's answer at the node m -/
def MakesS (Kd N A B : Nat → Int) (a : Option Addr) (len cap base g gc : Nat) (M : List (List UInt8)) (t : Tr) (m : Nat) : Prop := ∀ w : World, IsNodes w a len cap Kd N A B → OwnS w base g gc M → Calls Tryz.prog 47 #[.slice (some ⟨g, 0, none⟩) M.length gc, .slice a len cap, .int .i64 (m : Int)] w fun e w' => e = .returned (.bool (mkP (inM M) t)) ∧ Below w.heap.size w w'

set_option maxRecDepth 8000 in
set_option maxHeartbeats 8000000 in
theorem mks_bare (k n : Nat) (o m : Nat) (hlen : len ≤ 40) (hfit : Fit (⟨.inl (k, n)⟩ : Tr)) (hs : Sits Kd N A B (⟨.inl (k, n)⟩ : Tr) o) (hm : m + 1 = o + ((⟨.inl (k, n)⟩ : Tr)).size) (hl : m < len) (hk : k ≠ 2) : MakesS Kd N A B a len cap base g gc M (⟨.inl (k, n)⟩ : Tr) m := by
  intro w hI hM
  obtain ⟨t, ht⟩ : ∃ t : Tr, t = (⟨.inl (k, n)⟩ : Tr) := ⟨_, rfl⟩
  have HTX : Hid (∀ v, IsNodes v a len cap Kd N A B → Calls Tryz.prog 74 #[.slice a len cap, .int .i64 (m : Int)] v fun e w' => e = .returned (.string t.txt) ∧ Below v.heap.size v w') := fun v hv => by
    have h1 := text_any hlen _ o hfit.1 hs (by omega) v hv
    rw [← ht] at h1 hm
    rw [show (((o + t.size : Nat) : Int) - 1) = (m : Int) by omega] at h1
    exact h1
  have HCE : Hid (Kd m = (k : Int) ∧ N m = (n : Int) ∧ A m = 0 ∧ B m = 0) := by
    simp only [Tr.size] at hm
    simp only [Sits] at hs
    show _ ∧ _
    obtain rfl : m = o := by omega
    exact hs
  obtain ⟨X, hX⟩ : ∃ X, X = t.txt := ⟨_, rfl⟩
  rw [← hX] at HTX
  obtain ⟨b0, hb0⟩ : ∃ b0, b0 = inM M t := ⟨_, rfl⟩
  have HB0 : Hid (b0 = inM M t) := hb0
  have HTT : Hid (t = (⟨.inl (k, n)⟩ : Tr)) := ht
  rw [← ht]
  have HN : Hid (IsNodes w a len cap Kd N A B) := hI
  have HMM : Hid (OwnS w base g gc M) := hM
  have hmc := hM.caps
  obtain ⟨ml, hml⟩ : ∃ ml, ml = M.length := ⟨_, rfl⟩
  have HML : Hid (ml = M.length) := hml
  have HH : Hid (∀ v, Below w.heap.size w v → Calls Tryz.prog 56 #[.slice (some ⟨g, 0, none⟩) ml gc, .string X] v fun e w' => e = .returned (.bool b0) ∧ w' = v) := fun v hB => by
    have h1 := hasM_any base g gc M X v (HMM.out.below hB)
    rw [← HML.out] at h1
    rw [HB0.out, hX]; rw [hX] at h1
    exact h1
  rw [← hml] at hmc ⊢
  obtain ⟨hmc1, hmc2⟩ := hmc
  obtain ⟨hn1, hn2, hn3⟩ := hI
  obtain ⟨b, off, hra, hbs, hcell⟩ := hn3 (by omega)
  obtain ⟨c0, c1, c2, c3⟩ := hcell m hl
  obtain ⟨l0, l1, l2, l3⟩ := HCE.out
  rw [l0] at c0; rw [l1] at c1; rw [l2] at c2; rw [l3] at c3
  have hlI : (m : Int) < (len : Int) := by omega
  have hm0 : (0 : Int) ≤ (m : Int) := by omega
  have hk13 : k = 1 ∨ k = 3 := by have := hfit.1.1; omega
  obtain ⟨q, hq⟩ : ∃ q, q = ((k : Int) == 1) := ⟨_, rfl⟩
  have f1 : ((k : Int) == 1) = q := hq.symm
  have f3 : q = false → ((k : Int) == 3) = true := fun h => by rw [h] at hq; rcases hk13 with e | e <;> subst e <;> simp at hq ⊢
  have HF3 : Hid (q = false → ((k : Int) == 3) = true) := f3
  have HK : Hid (((k : Int) == 2) = false) := by show _ = _; simp; omega
  clear f3 hk hk13 hq
  clear hn3 hcell l0 l1 l2 l3 hs hm hfit hX hb0 ht hM hml
  subst hra
  cases q with
  | true =>
    clear HF3
    go_enter Tryz.func47, Tryz.ntmps47
    go_wp2
    go_ret
    refine ⟨ret_b ?_, (Below.refl _ _).alloc (Nat.le_refl _) _⟩
    rw [HTT.out, mkP, HK.out, Bool.not_false, Bool.or_true]
  | false =>
    have f3 := HF3.out rfl
    clear HF3
    go_enter Tryz.func47, Tryz.ntmps47
    go_wp2
    go_ret
    refine ⟨ret_b ?_, (Below.refl _ _).alloc (Nat.le_refl _) _⟩
    rw [HTT.out, mkP, HK.out, Bool.not_false, Bool.or_true]

set_option maxRecDepth 8000 in
set_option maxHeartbeats 8000000 in
theorem mks_key (n : Nat) (o m : Nat) (hlen : len ≤ 40) (hfit : Fit (⟨.inl (2, n)⟩ : Tr)) (hs : Sits Kd N A B (⟨.inl (2, n)⟩ : Tr) o) (hm : m + 1 = o + ((⟨.inl (2, n)⟩ : Tr)).size) (hl : m < len) : MakesS Kd N A B a len cap base g gc M (⟨.inl (2, n)⟩ : Tr) m := by
  intro w hI hM
  obtain ⟨t, ht⟩ : ∃ t : Tr, t = (⟨.inl (2, n)⟩ : Tr) := ⟨_, rfl⟩
  have HTX : Hid (∀ v, IsNodes v a len cap Kd N A B → Calls Tryz.prog 74 #[.slice a len cap, .int .i64 (m : Int)] v fun e w' => e = .returned (.string t.txt) ∧ Below v.heap.size v w') := fun v hv => by
    have h1 := text_any hlen _ o hfit.1 hs (by omega) v hv
    rw [← ht] at h1 hm
    rw [show (((o + t.size : Nat) : Int) - 1) = (m : Int) by omega] at h1
    exact h1
  have HCE : Hid (Kd m = 2 ∧ N m = (n : Int) ∧ A m = 0 ∧ B m = 0) := by
    simp only [Tr.size] at hm
    simp only [Sits] at hs
    show _ ∧ _
    obtain rfl : m = o := by omega
    exact hs
  obtain ⟨X, hX⟩ : ∃ X, X = t.txt := ⟨_, rfl⟩
  rw [← hX] at HTX
  obtain ⟨b0, hb0⟩ : ∃ b0, b0 = inM M t := ⟨_, rfl⟩
  have HB0 : Hid (b0 = inM M t) := hb0
  have HTT : Hid (t = (⟨.inl (2, n)⟩ : Tr)) := ht
  rw [← ht]
  have HN : Hid (IsNodes w a len cap Kd N A B) := hI
  have HMM : Hid (OwnS w base g gc M) := hM
  have hmc := hM.caps
  obtain ⟨ml, hml⟩ : ∃ ml, ml = M.length := ⟨_, rfl⟩
  have HML : Hid (ml = M.length) := hml
  have HH : Hid (∀ v, Below w.heap.size w v → Calls Tryz.prog 56 #[.slice (some ⟨g, 0, none⟩) ml gc, .string X] v fun e w' => e = .returned (.bool b0) ∧ w' = v) := fun v hB => by
    have h1 := hasM_any base g gc M X v (HMM.out.below hB)
    rw [← HML.out] at h1
    rw [HB0.out, hX]; rw [hX] at h1
    exact h1
  rw [← hml] at hmc ⊢
  obtain ⟨hmc1, hmc2⟩ := hmc
  obtain ⟨hn1, hn2, hn3⟩ := hI
  obtain ⟨b, off, hra, hbs, hcell⟩ := hn3 (by omega)
  obtain ⟨c0, c1, c2, c3⟩ := hcell m hl
  obtain ⟨l0, l1, l2, l3⟩ := HCE.out
  rw [l0] at c0; rw [l1] at c1; rw [l2] at c2; rw [l3] at c3
  have hlI : (m : Int) < (len : Int) := by omega
  have hm0 : (0 : Int) ≤ (m : Int) := by omega
  clear hn3 hcell l0 l1 l2 l3 hs hm hfit hX hb0 ht hM hml
  subst hra
  go_enter Tryz.func47, Tryz.ntmps47
  go_wp2_with fail
  obtain ⟨w1, hw1⟩ : ∃ w1, w1 = w.alloc (.cells #[.int .i64 2, .int .i64 (n : Int), .int .i64 0, .int .i64 0] 113) := ⟨_, rfl⟩
  have HB1 : Hid (Below w.heap.size w w1) := by show Below _ _ _; rw [hw1]; exact (Below.refl _ _).alloc (Nat.le_refl _) _
  have HX1 : Hid (w1.heap[w.heap.size]? = some (.cells #[.int .i64 2, .int .i64 (n : Int), .int .i64 0, .int .i64 0] 113 (0, 0))) := by show _ = _; rw [hw1]; exact heap_alloc_new _ _
  rw [← hw1]
  clear hw1
  refine (HTX.out w1 (HN.out.below HB1.out)).mono ?_
  rintro e w3 ⟨rfl, hB3⟩
  have HB3 : Hid (Below w.heap.size w w3) := HB1.out.trans (hB3.mono HB1.out.size)
  have HX3 : Hid (w3.heap[w.heap.size]? = some (.cells #[.int .i64 2, .int .i64 (n : Int), .int .i64 0, .int .i64 0] 113 (0, 0))) := (hB3.block _ (lt_of_block HX1.out)).trans HX1.out
  clear hB3
  have x0 : w3.cell? ⟨w.heap.size, 0, none⟩ = some (.int .i64 2) := cellN HX3.out
  have x1 : w3.cell? ⟨w.heap.size, 1, none⟩ = some (.int .i64 (n : Int)) := cellN HX3.out
  have x2 : w3.cell? ⟨w.heap.size, 2, none⟩ = some (.int .i64 0) := cellN HX3.out
  have x3 : w3.cell? ⟨w.heap.size, 3, none⟩ = some (.int .i64 0) := cellN HX3.out
  go_wp2_with fail
  refine (HH.out w3 HB3.out).mono ?_
  rintro e w4 ⟨rfl, hw4⟩
  rw [hw4]
  clear hw4 w4
  cases b0 with
  | true =>
    go_wp2
    go_ret
    exact ⟨ret_b (mkP_yes HB0.out.symm).symm, HB3.out⟩
  | false =>
  go_wp2
  go_ret
  refine ⟨ret_b ?_, HB3.out⟩
  rw [HTT.out, mkP, ← HTT.out, ← HB0.out]
  rfl

set_option maxRecDepth 8000 in
set_option maxHeartbeats 8000000 in
theorem mks_hash (u : Tr) (mu : Nat) (o m : Nat) (hlen : len ≤ 40) (hfit : Fit (⟨.inr (.inl u)⟩ : Tr)) (hs : Sits Kd N A B (⟨.inr (.inl u)⟩ : Tr) o) (hm : m + 1 = o + ((⟨.inr (.inl u)⟩ : Tr)).size) (hl : m < len) (hmu : mu + 1 = o + u.size) (ih1 : MakesS Kd N A B a len cap base g gc M u mu) : MakesS Kd N A B a len cap base g gc M (⟨.inr (.inl u)⟩ : Tr) m := by
  intro w hI hM
  obtain ⟨t, ht⟩ : ∃ t : Tr, t = (⟨.inr (.inl u)⟩ : Tr) := ⟨_, rfl⟩
  have HTX : Hid (∀ v, IsNodes v a len cap Kd N A B → Calls Tryz.prog 74 #[.slice a len cap, .int .i64 (m : Int)] v fun e w' => e = .returned (.string t.txt) ∧ Below v.heap.size v w') := fun v hv => by
    have h1 := text_any hlen _ o hfit.1 hs (by omega) v hv
    rw [← ht] at h1 hm
    rw [show (((o + t.size : Nat) : Int) - 1) = (m : Int) by omega] at h1
    exact h1
  have HCE : Hid (Kd m = 4 ∧ N m = 0 ∧ A m = (mu : Int) ∧ B m = 0) := by
    simp only [Tr.size] at hm
    simp only [Sits] at hs
    show _ ∧ _
    obtain rfl : m = o + u.size := by omega
    have e : (mu : Int) = ((o + u.size : Nat) : Int) - 1 := by omega
    rw [e]; exact hs.2
  obtain ⟨X, hX⟩ : ∃ X, X = t.txt := ⟨_, rfl⟩
  rw [← hX] at HTX
  obtain ⟨b0, hb0⟩ : ∃ b0, b0 = inM M t := ⟨_, rfl⟩
  have HB0 : Hid (b0 = inM M t) := hb0
  have HTT : Hid (t = (⟨.inr (.inl u)⟩ : Tr)) := ht
  rw [← ht]
  have HN : Hid (IsNodes w a len cap Kd N A B) := hI
  have HMM : Hid (OwnS w base g gc M) := hM
  have hmc := hM.caps
  obtain ⟨ml, hml⟩ : ∃ ml, ml = M.length := ⟨_, rfl⟩
  have HML : Hid (ml = M.length) := hml
  have HH : Hid (∀ v, Below w.heap.size w v → Calls Tryz.prog 56 #[.slice (some ⟨g, 0, none⟩) ml gc, .string X] v fun e w' => e = .returned (.bool b0) ∧ w' = v) := fun v hB => by
    have h1 := hasM_any base g gc M X v (HMM.out.below hB)
    rw [← HML.out] at h1
    rw [HB0.out, hX]; rw [hX] at h1
    exact h1
  rw [← hml] at hmc ⊢
  obtain ⟨hmc1, hmc2⟩ := hmc
  obtain ⟨hn1, hn2, hn3⟩ := hI
  obtain ⟨b, off, hra, hbs, hcell⟩ := hn3 (by omega)
  obtain ⟨c0, c1, c2, c3⟩ := hcell m hl
  obtain ⟨l0, l1, l2, l3⟩ := HCE.out
  rw [l0] at c0; rw [l1] at c1; rw [l2] at c2; rw [l3] at c3
  have hlI : (m : Int) < (len : Int) := by omega
  have hm0 : (0 : Int) ≤ (m : Int) := by omega
  have HIH : Hid (∀ v, Below w.heap.size w v → Calls Tryz.prog 47 #[.slice (some ⟨g, 0, none⟩) ml gc, .slice a len cap, .int .i64 (mu : Int)] v fun e w' => e = .returned (.bool (mkP (inM M) u)) ∧ Below v.heap.size v w') := fun v hB => by rw [HML.out]; exact ih1 v (HN.out.below hB) (HMM.out.below hB)
  clear hn3 hcell l0 l1 l2 l3 hs hm hfit hX hb0 ht hM hml
  subst hra
  go_enter Tryz.func47, Tryz.ntmps47
  go_wp2_with fail
  obtain ⟨w1, hw1⟩ : ∃ w1, w1 = w.alloc (.cells #[.int .i64 4, .int .i64 0, .int .i64 (mu : Int), .int .i64 0] 113) := ⟨_, rfl⟩
  have HB1 : Hid (Below w.heap.size w w1) := by show Below _ _ _; rw [hw1]; exact (Below.refl _ _).alloc (Nat.le_refl _) _
  have HX1 : Hid (w1.heap[w.heap.size]? = some (.cells #[.int .i64 4, .int .i64 0, .int .i64 (mu : Int), .int .i64 0] 113 (0, 0))) := by show _ = _; rw [hw1]; exact heap_alloc_new _ _
  rw [← hw1]
  clear hw1
  refine (HTX.out w1 (HN.out.below HB1.out)).mono ?_
  rintro e w3 ⟨rfl, hB3⟩
  have HB3 : Hid (Below w.heap.size w w3) := HB1.out.trans (hB3.mono HB1.out.size)
  have HX3 : Hid (w3.heap[w.heap.size]? = some (.cells #[.int .i64 4, .int .i64 0, .int .i64 (mu : Int), .int .i64 0] 113 (0, 0))) := (hB3.block _ (lt_of_block HX1.out)).trans HX1.out
  clear hB3
  have x0 : w3.cell? ⟨w.heap.size, 0, none⟩ = some (.int .i64 4) := cellN HX3.out
  have x1 : w3.cell? ⟨w.heap.size, 1, none⟩ = some (.int .i64 0) := cellN HX3.out
  have x2 : w3.cell? ⟨w.heap.size, 2, none⟩ = some (.int .i64 (mu : Int)) := cellN HX3.out
  have x3 : w3.cell? ⟨w.heap.size, 3, none⟩ = some (.int .i64 0) := cellN HX3.out
  go_wp2_with fail
  refine (HH.out w3 HB3.out).mono ?_
  rintro e w4 ⟨rfl, hw4⟩
  rw [hw4]
  clear hw4 w4
  cases b0 with
  | true =>
    go_wp2
    go_ret
    exact ⟨ret_b (mkP_yes HB0.out.symm).symm, HB3.out⟩
  | false =>
  go_wp2_with fail
  refine (HIH.out w3 HB3.out).mono ?_
  rintro e w5 ⟨rfl, hB5⟩
  have HB5 : Hid (Below w.heap.size w w5) := HB3.out.trans (hB5.mono HB3.out.size)
  clear hB5
  go_wp2
  go_ret
  refine ⟨ret_b ?_, HB5.out⟩
  rw [HTT.out, mkP, ← HTT.out, ← HB0.out]
  rfl

set_option maxRecDepth 8000 in
set_option maxHeartbeats 8000000 in
theorem mks_pair (u v : Tr) (mu mv : Nat) (o m : Nat) (hlen : len ≤ 40) (hfit : Fit (⟨.inr (.inr (.inl (u, v)))⟩ : Tr)) (hs : Sits Kd N A B (⟨.inr (.inr (.inl (u, v)))⟩ : Tr) o) (hm : m + 1 = o + ((⟨.inr (.inr (.inl (u, v)))⟩ : Tr)).size) (hl : m < len) (hmu : mu + 1 = o + u.size) (hmv : mv + 1 = o + u.size + v.size) (ih1 : MakesS Kd N A B a len cap base g gc M u mu) (ih2 : MakesS Kd N A B a len cap base g gc M v mv) : MakesS Kd N A B a len cap base g gc M (⟨.inr (.inr (.inl (u, v)))⟩ : Tr) m := by
  intro w hI hM
  obtain ⟨t, ht⟩ : ∃ t : Tr, t = (⟨.inr (.inr (.inl (u, v)))⟩ : Tr) := ⟨_, rfl⟩
  have HTX : Hid (∀ v, IsNodes v a len cap Kd N A B → Calls Tryz.prog 74 #[.slice a len cap, .int .i64 (m : Int)] v fun e w' => e = .returned (.string t.txt) ∧ Below v.heap.size v w') := fun v hv => by
    have h1 := text_any hlen _ o hfit.1 hs (by omega) v hv
    rw [← ht] at h1 hm
    rw [show (((o + t.size : Nat) : Int) - 1) = (m : Int) by omega] at h1
    exact h1
  have HCE : Hid (Kd m = 5 ∧ N m = 0 ∧ A m = (mu : Int) ∧ B m = (mv : Int)) := by
    simp only [Tr.size] at hm
    simp only [Sits] at hs
    show _ ∧ _
    obtain rfl : m = o + u.size + v.size := by omega
    have e : (mu : Int) = ((o + u.size : Nat) : Int) - 1 := by omega
    have e2 : (mv : Int) = ((o + u.size + v.size : Nat) : Int) - 1 := by omega
    rw [e, e2]; exact hs.2.2
  obtain ⟨X, hX⟩ : ∃ X, X = t.txt := ⟨_, rfl⟩
  rw [← hX] at HTX
  obtain ⟨b0, hb0⟩ : ∃ b0, b0 = inM M t := ⟨_, rfl⟩
  have HB0 : Hid (b0 = inM M t) := hb0
  have HTT : Hid (t = (⟨.inr (.inr (.inl (u, v)))⟩ : Tr)) := ht
  rw [← ht]
  have HN : Hid (IsNodes w a len cap Kd N A B) := hI
  have HMM : Hid (OwnS w base g gc M) := hM
  have hmc := hM.caps
  obtain ⟨ml, hml⟩ : ∃ ml, ml = M.length := ⟨_, rfl⟩
  have HML : Hid (ml = M.length) := hml
  have HH : Hid (∀ v, Below w.heap.size w v → Calls Tryz.prog 56 #[.slice (some ⟨g, 0, none⟩) ml gc, .string X] v fun e w' => e = .returned (.bool b0) ∧ w' = v) := fun v hB => by
    have h1 := hasM_any base g gc M X v (HMM.out.below hB)
    rw [← HML.out] at h1
    rw [HB0.out, hX]; rw [hX] at h1
    exact h1
  rw [← hml] at hmc ⊢
  obtain ⟨hmc1, hmc2⟩ := hmc
  obtain ⟨hn1, hn2, hn3⟩ := hI
  obtain ⟨b, off, hra, hbs, hcell⟩ := hn3 (by omega)
  obtain ⟨c0, c1, c2, c3⟩ := hcell m hl
  obtain ⟨l0, l1, l2, l3⟩ := HCE.out
  rw [l0] at c0; rw [l1] at c1; rw [l2] at c2; rw [l3] at c3
  have hlI : (m : Int) < (len : Int) := by omega
  have hm0 : (0 : Int) ≤ (m : Int) := by omega
  have HI1 : Hid (∀ vw, Below w.heap.size w vw → Calls Tryz.prog 47 #[.slice (some ⟨g, 0, none⟩) ml gc, .slice a len cap, .int .i64 (mu : Int)] vw fun e w' => e = .returned (.bool (mkP (inM M) u)) ∧ Below vw.heap.size vw w') := fun vw hB => by rw [HML.out]; exact ih1 vw (HN.out.below hB) (HMM.out.below hB)
  have HI2 : Hid (∀ vw, Below w.heap.size w vw → Calls Tryz.prog 47 #[.slice (some ⟨g, 0, none⟩) ml gc, .slice a len cap, .int .i64 (mv : Int)] vw fun e w' => e = .returned (.bool (mkP (inM M) v)) ∧ Below vw.heap.size vw w') := fun vw hB => by rw [HML.out]; exact ih2 vw (HN.out.below hB) (HMM.out.below hB)
  obtain ⟨p1, hp1⟩ : ∃ p1, p1 = mkP (inM M) u := ⟨_, rfl⟩
  obtain ⟨p2, hp2⟩ : ∃ p2, p2 = mkP (inM M) v := ⟨_, rfl⟩
  rw [← hp1] at HI1
  rw [← hp2] at HI2
  have HP : Hid (p1 = mkP (inM M) u ∧ p2 = mkP (inM M) v) := ⟨hp1, hp2⟩
  clear hp1 hp2
  clear hn3 hcell l0 l1 l2 l3 hs hm hfit hX hb0 ht hM hml
  subst hra
  go_enter Tryz.func47, Tryz.ntmps47
  go_wp2_with fail
  obtain ⟨w1, hw1⟩ : ∃ w1, w1 = w.alloc (.cells #[.int .i64 5, .int .i64 0, .int .i64 (mu : Int), .int .i64 (mv : Int)] 113) := ⟨_, rfl⟩
  have HB1 : Hid (Below w.heap.size w w1) := by show Below _ _ _; rw [hw1]; exact (Below.refl _ _).alloc (Nat.le_refl _) _
  have HX1 : Hid (w1.heap[w.heap.size]? = some (.cells #[.int .i64 5, .int .i64 0, .int .i64 (mu : Int), .int .i64 (mv : Int)] 113 (0, 0))) := by show _ = _; rw [hw1]; exact heap_alloc_new _ _
  rw [← hw1]
  clear hw1
  refine (HTX.out w1 (HN.out.below HB1.out)).mono ?_
  rintro e w3 ⟨rfl, hB3⟩
  have HB3 : Hid (Below w.heap.size w w3) := HB1.out.trans (hB3.mono HB1.out.size)
  have HX3 : Hid (w3.heap[w.heap.size]? = some (.cells #[.int .i64 5, .int .i64 0, .int .i64 (mu : Int), .int .i64 (mv : Int)] 113 (0, 0))) := (hB3.block _ (lt_of_block HX1.out)).trans HX1.out
  clear hB3
  have x0 : w3.cell? ⟨w.heap.size, 0, none⟩ = some (.int .i64 5) := cellN HX3.out
  have x1 : w3.cell? ⟨w.heap.size, 1, none⟩ = some (.int .i64 0) := cellN HX3.out
  have x2 : w3.cell? ⟨w.heap.size, 2, none⟩ = some (.int .i64 (mu : Int)) := cellN HX3.out
  have x3 : w3.cell? ⟨w.heap.size, 3, none⟩ = some (.int .i64 (mv : Int)) := cellN HX3.out
  go_wp2_with fail
  refine (HH.out w3 HB3.out).mono ?_
  rintro e w4 ⟨rfl, hw4⟩
  rw [hw4]
  clear hw4 w4
  cases b0 with
  | true =>
    go_wp2
    go_ret
    exact ⟨ret_b (mkP_yes HB0.out.symm).symm, HB3.out⟩
  | false =>
  go_wp2_with fail
  refine (HI1.out w3 HB3.out).mono ?_
  rintro e w5 ⟨rfl, hB5⟩
  have HB5 : Hid (Below w.heap.size w w5) := HB3.out.trans (hB5.mono HB3.out.size)
  have y3 : w5.cell? ⟨w.heap.size, 3, none⟩ = some (.int .i64 (mv : Int)) := (hB5.cell (p := ⟨w.heap.size, 3, none⟩) (cell_lt x3)).trans x3
  clear hB5 x0 x1 x2 x3
  cases p1 with
  | false =>
    go_wp2
    go_ret
    refine ⟨ret_b ?_, HB5.out⟩
    rw [HTT.out, mkP, ← HTT.out, ← HB0.out, ← HP.out.1]
    rfl
  | true =>
  go_wp2_with fail
  refine (HI2.out w5 HB5.out).mono ?_
  rintro e w6 ⟨rfl, hB6⟩
  have HB6 : Hid (Below w.heap.size w w6) := HB5.out.trans (hB6.mono HB5.out.size)
  clear hB6 y3
  go_wp2
  go_ret
  refine ⟨ret_b ?_, HB6.out⟩
  rw [HTT.out, mkP, ← HTT.out, ← HB0.out, ← HP.out.1, ← HP.out.2]
  rfl

set_option maxRecDepth 8000 in
set_option maxHeartbeats 8000000 in
theorem mks_keyed (k n : Nat) (u : Tr) (mu : Nat) (q : Bool) (o m : Nat) (hlen : len ≤ 40) (hfit : Fit (⟨.inr (.inr (.inr (k, n, u)))⟩ : Tr)) (hs : Sits Kd N A B (⟨.inr (.inr (.inr (k, n, u)))⟩ : Tr) o) (hm : m + 1 = o + ((⟨.inr (.inr (.inr (k, n, u)))⟩ : Tr)).size) (hl : m < len) (hmu : mu + 1 = o + u.size) (hq6 : ((k : Int) == 6) = q) (hq7 : ((k : Int) == 7) = !q) (ih1 : MakesS Kd N A B a len cap base g gc M u mu) : MakesS Kd N A B a len cap base g gc M (⟨.inr (.inr (.inr (k, n, u)))⟩ : Tr) m := by
  intro w hI hM
  obtain ⟨t, ht⟩ : ∃ t : Tr, t = (⟨.inr (.inr (.inr (k, n, u)))⟩ : Tr) := ⟨_, rfl⟩
  have HTX : Hid (∀ v, IsNodes v a len cap Kd N A B → Calls Tryz.prog 74 #[.slice a len cap, .int .i64 (m : Int)] v fun e w' => e = .returned (.string t.txt) ∧ Below v.heap.size v w') := fun v hv => by
    have h1 := text_any hlen _ o hfit.1 hs (by omega) v hv
    rw [← ht] at h1 hm
    rw [show (((o + t.size : Nat) : Int) - 1) = (m : Int) by omega] at h1
    exact h1
  have HCE : Hid (Kd m = (k : Int) ∧ N m = (n : Int) ∧ A m = (mu : Int) ∧ B m = 0) := by
    simp only [Tr.size] at hm
    simp only [Sits] at hs
    show _ ∧ _
    obtain rfl : m = o + u.size := by omega
    have e : (mu : Int) = ((o + u.size : Nat) : Int) - 1 := by omega
    rw [e]; exact hs.2
  obtain ⟨X, hX⟩ : ∃ X, X = t.txt := ⟨_, rfl⟩
  rw [← hX] at HTX
  obtain ⟨b0, hb0⟩ : ∃ b0, b0 = inM M t := ⟨_, rfl⟩
  have HB0 : Hid (b0 = inM M t) := hb0
  have HTT : Hid (t = (⟨.inr (.inr (.inr (k, n, u)))⟩ : Tr)) := ht
  rw [← ht]
  have HN : Hid (IsNodes w a len cap Kd N A B) := hI
  have HMM : Hid (OwnS w base g gc M) := hM
  have hmc := hM.caps
  obtain ⟨ml, hml⟩ : ∃ ml, ml = M.length := ⟨_, rfl⟩
  have HML : Hid (ml = M.length) := hml
  have HH : Hid (∀ v, Below w.heap.size w v → Calls Tryz.prog 56 #[.slice (some ⟨g, 0, none⟩) ml gc, .string X] v fun e w' => e = .returned (.bool b0) ∧ w' = v) := fun v hB => by
    have h1 := hasM_any base g gc M X v (HMM.out.below hB)
    rw [← HML.out] at h1
    rw [HB0.out, hX]; rw [hX] at h1
    exact h1
  rw [← hml] at hmc ⊢
  obtain ⟨hmc1, hmc2⟩ := hmc
  obtain ⟨hn1, hn2, hn3⟩ := hI
  obtain ⟨b, off, hra, hbs, hcell⟩ := hn3 (by omega)
  obtain ⟨c0, c1, c2, c3⟩ := hcell m hl
  obtain ⟨l0, l1, l2, l3⟩ := HCE.out
  rw [l0] at c0; rw [l1] at c1; rw [l2] at c2; rw [l3] at c3
  have hlI : (m : Int) < (len : Int) := by omega
  have hm0 : (0 : Int) ≤ (m : Int) := by omega
  have HI1 : Hid (∀ vw, Below w.heap.size w vw → Calls Tryz.prog 47 #[.slice (some ⟨g, 0, none⟩) ml gc, .slice a len cap, .int .i64 (mu : Int)] vw fun e w' => e = .returned (.bool (mkP (inM M) u)) ∧ Below vw.heap.size vw w') := fun vw hB => by rw [HML.out]; exact ih1 vw (HN.out.below hB) (HMM.out.below hB)
  have HFN : Hid (n ≤ 999) := hfit.1.2.1
  have hkk := hfit.1.1
  have f1 : ((k : Int) == 1) = false := by simp; omega
  have f3 : ((k : Int) == 3) = false := by simp; omega
  have f4 : ((k : Int) == 4) = false := by simp; omega
  have f5 : ((k : Int) == 5) = false := by simp; omega
  clear hkk
  have HAD : Hid (∀ v : World, (Op.stringOp .add ⟨#[107]⟩ (decB n)).run Tryz.prog v = .ok (.string (⟨#[107]⟩ ++ decB n)) v) := fun v => add_ok (by have h1 := decB_size n; have e : (ByteArray.mk #[107]).size = 1 := rfl; have h2 := HFN.out; omega) v
  have HKT : Hid ((keyT n).txt = ⟨#[107]⟩ ++ decB n) := by show _ = _; rw [keyT_txt]; rfl
  obtain ⟨kb, hkb⟩ : ∃ kb, kb = inM M (keyT n) := ⟨_, rfl⟩
  have HKB : Hid (kb = inM M (keyT n)) := hkb
  have HHK : Hid (∀ v, Below w.heap.size w v → Calls Tryz.prog 56 #[.slice (some ⟨g, 0, none⟩) ml gc, .string (⟨#[107]⟩ ++ decB n)] v fun e w' => e = .returned (.bool kb) ∧ w' = v) := fun v hB => by
    have h1 := hasM_any base g gc M (keyT n).txt v (HMM.out.below hB)
    rw [← HML.out] at h1
    rw [hkb]
    rw [HKT.out] at h1
    unfold inM
    rw [HKT.out]
    exact h1
  clear hkb
  clear hn3 hcell l0 l1 l2 l3 hs hm hfit hX hb0 ht hM hml
  subst hra
  cases q with
  | false =>
    go_enter Tryz.func47, Tryz.ntmps47
    go_wp2_with fail
    obtain ⟨w1, hw1⟩ : ∃ w1, w1 = w.alloc (.cells #[.int .i64 (k : Int), .int .i64 (n : Int), .int .i64 (mu : Int), .int .i64 0] 113) := ⟨_, rfl⟩
    have HB1 : Hid (Below w.heap.size w w1) := by show Below _ _ _; rw [hw1]; exact (Below.refl _ _).alloc (Nat.le_refl _) _
    have HX1 : Hid (w1.heap[w.heap.size]? = some (.cells #[.int .i64 (k : Int), .int .i64 (n : Int), .int .i64 (mu : Int), .int .i64 0] 113 (0, 0))) := by show _ = _; rw [hw1]; exact heap_alloc_new _ _
    rw [← hw1]
    clear hw1
    refine (HTX.out w1 (HN.out.below HB1.out)).mono ?_
    rintro e w3 ⟨rfl, hB3⟩
    have HB3 : Hid (Below w.heap.size w w3) := HB1.out.trans (hB3.mono HB1.out.size)
    have HX3 : Hid (w3.heap[w.heap.size]? = some (.cells #[.int .i64 (k : Int), .int .i64 (n : Int), .int .i64 (mu : Int), .int .i64 0] 113 (0, 0))) := (hB3.block _ (lt_of_block HX1.out)).trans HX1.out
    clear hB3
    have x0 : w3.cell? ⟨w.heap.size, 0, none⟩ = some (.int .i64 (k : Int)) := cellN HX3.out
    have x1 : w3.cell? ⟨w.heap.size, 1, none⟩ = some (.int .i64 (n : Int)) := cellN HX3.out
    have x2 : w3.cell? ⟨w.heap.size, 2, none⟩ = some (.int .i64 (mu : Int)) := cellN HX3.out
    have x3 : w3.cell? ⟨w.heap.size, 3, none⟩ = some (.int .i64 0) := cellN HX3.out
    go_wp2_with fail
    refine (HH.out w3 HB3.out).mono ?_
    rintro e w4 ⟨rfl, hw4⟩
    rw [hw4]
    clear hw4 w4
    cases b0 with
    | true =>
      go_wp2
      go_ret
      exact ⟨ret_b (mkP_yes HB0.out.symm).symm, HB3.out⟩
    | false =>
    go_wp2_with fail
    refine (l1Dec_any n HFN.out w3).mono ?_
    rintro e w5 ⟨rfl, hB5⟩
    have HB5 : Hid (Below w.heap.size w w5) := HB3.out.trans (hB5.mono HB3.out.size)
    have y2 : w5.cell? ⟨w.heap.size, 2, none⟩ = some (.int .i64 (mu : Int)) := (hB5.cell (p := ⟨w.heap.size, 2, none⟩) (cell_lt x2)).trans x2
    clear hB5 x0 x1 x2 x3
    have ad := HAD.out w5
    go_wp2_with fail
    refine (HHK.out w5 HB5.out).mono ?_
    rintro e w6 ⟨rfl, hw6⟩
    rw [hw6]
    clear hw6 w6
    cases kb with
    | false =>
      clear ad y2
      go_wp2
      go_ret
      refine ⟨ret_b ?_, HB5.out⟩
      rw [HTT.out, mkP, ← HTT.out, ← HB0.out, ← HKB.out]
      rfl
    | true =>
    go_wp2_with fail
    refine (HI1.out w5 HB5.out).mono ?_
    rintro e w7 ⟨rfl, hB7⟩
    have HB7 : Hid (Below w.heap.size w w7) := HB5.out.trans (hB7.mono HB5.out.size)
    clear hB7 y2 ad
    go_wp2
    go_ret
    refine ⟨ret_b ?_, HB7.out⟩
    rw [HTT.out, mkP, ← HTT.out, ← HB0.out, ← HKB.out]
    rfl
  | true =>
    go_enter Tryz.func47, Tryz.ntmps47
    go_wp2_with fail
    obtain ⟨w1, hw1⟩ : ∃ w1, w1 = w.alloc (.cells #[.int .i64 (k : Int), .int .i64 (n : Int), .int .i64 (mu : Int), .int .i64 0] 113) := ⟨_, rfl⟩
    have HB1 : Hid (Below w.heap.size w w1) := by show Below _ _ _; rw [hw1]; exact (Below.refl _ _).alloc (Nat.le_refl _) _
    have HX1 : Hid (w1.heap[w.heap.size]? = some (.cells #[.int .i64 (k : Int), .int .i64 (n : Int), .int .i64 (mu : Int), .int .i64 0] 113 (0, 0))) := by show _ = _; rw [hw1]; exact heap_alloc_new _ _
    rw [← hw1]
    clear hw1
    refine (HTX.out w1 (HN.out.below HB1.out)).mono ?_
    rintro e w3 ⟨rfl, hB3⟩
    have HB3 : Hid (Below w.heap.size w w3) := HB1.out.trans (hB3.mono HB1.out.size)
    have HX3 : Hid (w3.heap[w.heap.size]? = some (.cells #[.int .i64 (k : Int), .int .i64 (n : Int), .int .i64 (mu : Int), .int .i64 0] 113 (0, 0))) := (hB3.block _ (lt_of_block HX1.out)).trans HX1.out
    clear hB3
    have x0 : w3.cell? ⟨w.heap.size, 0, none⟩ = some (.int .i64 (k : Int)) := cellN HX3.out
    have x1 : w3.cell? ⟨w.heap.size, 1, none⟩ = some (.int .i64 (n : Int)) := cellN HX3.out
    have x2 : w3.cell? ⟨w.heap.size, 2, none⟩ = some (.int .i64 (mu : Int)) := cellN HX3.out
    have x3 : w3.cell? ⟨w.heap.size, 3, none⟩ = some (.int .i64 0) := cellN HX3.out
    go_wp2_with fail
    refine (HH.out w3 HB3.out).mono ?_
    rintro e w4 ⟨rfl, hw4⟩
    rw [hw4]
    clear hw4 w4
    cases b0 with
    | true =>
      go_wp2
      go_ret
      exact ⟨ret_b (mkP_yes HB0.out.symm).symm, HB3.out⟩
    | false =>
    go_wp2_with fail
    refine (l1Dec_any n HFN.out w3).mono ?_
    rintro e w5 ⟨rfl, hB5⟩
    have HB5 : Hid (Below w.heap.size w w5) := HB3.out.trans (hB5.mono HB3.out.size)
    have y2 : w5.cell? ⟨w.heap.size, 2, none⟩ = some (.int .i64 (mu : Int)) := (hB5.cell (p := ⟨w.heap.size, 2, none⟩) (cell_lt x2)).trans x2
    clear hB5 x0 x1 x2 x3
    have ad := HAD.out w5
    go_wp2_with fail
    refine (HHK.out w5 HB5.out).mono ?_
    rintro e w6 ⟨rfl, hw6⟩
    rw [hw6]
    clear hw6 w6
    cases kb with
    | false =>
      clear ad y2
      go_wp2
      go_ret
      refine ⟨ret_b ?_, HB5.out⟩
      rw [HTT.out, mkP, ← HTT.out, ← HB0.out, ← HKB.out]
      rfl
    | true =>
    go_wp2_with fail
    refine (HI1.out w5 HB5.out).mono ?_
    rintro e w7 ⟨rfl, hB7⟩
    have HB7 : Hid (Below w.heap.size w w7) := HB5.out.trans (hB7.mono HB5.out.size)
    clear hB7 y2 ad
    go_wp2
    go_ret
    refine ⟨ret_b ?_, HB7.out⟩
    rw [HTT.out, mkP, ← HTT.out, ← HB0.out, ← HKB.out]
    rfl

/-- the specification's l2Makes at every right term that sits in nodes -/
theorem l2Makes_any (hlen : len ≤ 40) : ∀ (t : Tr) (o m : Nat), Fit t → Sits Kd N A B t o → m + 1 = o + t.size → m < len → MakesS Kd N A B a len cap base g gc M t m
  | ⟨.inl (k, n)⟩, o, m, hf, hs, hm, hl => by
    by_cases hk : k = 2
    · subst hk; exact mks_key n o m hlen hf hs hm hl
    · exact mks_bare k n o m hlen hf hs hm hl hk
  | ⟨.inr (.inl u)⟩, o, m, hf, hs, hm, hl => by
    have h1 := Tr.size_pos u
    have h2 := hm
    simp only [Tr.size] at h2
    exact mks_hash u (o + u.size - 1) o m hlen hf hs hm hl (by omega) (l2Makes_any hlen u o _ (hf.kid (by simp [Tr.kids])) (by simp only [Sits] at hs; exact hs.1) (by omega) (by omega))
  | ⟨.inr (.inr (.inl (u, v)))⟩, o, m, hf, hs, hm, hl => by
    have h1 := Tr.size_pos u
    have h3 := Tr.size_pos v
    have h2 := hm
    simp only [Tr.size] at h2
    exact mks_pair u v (o + u.size - 1) (o + u.size + v.size - 1) o m hlen hf hs hm hl (by omega) (by omega) (l2Makes_any hlen u o _ (hf.kid (by simp [Tr.kids])) (by simp only [Sits] at hs; exact hs.1) (by omega) (by omega)) (l2Makes_any hlen v (o + u.size) _ (hf.kid (by simp [Tr.kids])) (by simp only [Sits] at hs; exact hs.2.1) (by omega) (by omega))
  | ⟨.inr (.inr (.inr (k, n, u)))⟩, o, m, hf, hs, hm, hl => by
    have h1 := Tr.size_pos u
    have h2 := hm
    simp only [Tr.size] at h2
    have hk := hf.1.1
    exact mks_keyed k n u (o + u.size - 1) ((k : Int) == 6) o m hlen hf hs hm hl (by omega) rfl (by rcases hk with e | e <;> subst e <;> rfl) (l2Makes_any hlen u o _ (hf.kid (by simp [Tr.kids])) (by simp only [Sits] at hs; exact hs.1) (by omega) (by omega))
end
end Go.Proofs.YtpcbhjejpebogaaGreatDoor

namespace Go.Proofs.YtpcbhjejpebogaaGreatDoor
open Go.RowKit Go.Maps
set_option linter.unusedVariables false

/-- can be made of what P holds -/
def MkT (P : Tr → Prop) : Tr → Prop
  | ⟨.inl (k, n)⟩ => P ⟨.inl (k, n)⟩ ∨ k ≠ 2
  | ⟨.inr (.inl u)⟩ => P ⟨.inr (.inl u)⟩ ∨ MkT P u
  | ⟨.inr (.inr (.inl (a, b)))⟩ => P ⟨.inr (.inr (.inl (a, b)))⟩ ∨ (MkT P a ∧ MkT P b)
  | ⟨.inr (.inr (.inr (k, n, a)))⟩ => P ⟨.inr (.inr (.inr (k, n, a)))⟩ ∨ (P (keyT n) ∧ MkT P a)
theorem mkP_iff {p : Tr → Bool} {P : Tr → Prop} (h : ∀ u, p u = true ↔ P u) : ∀ t : Tr, mkP p t = true ↔ MkT P t
  | ⟨.inl (k, n)⟩ => by
    rw [mkP, MkT, Bool.or_eq_true, h]
    have e : (!((k : Int) == 2)) = true ↔ k ≠ 2 := by
      rw [Bool.not_eq_true', beq_eq_false_iff_ne]
      omega
    rw [e]
  | ⟨.inr (.inl u)⟩ => by rw [mkP, MkT, Bool.or_eq_true, h, mkP_iff h u]
  | ⟨.inr (.inr (.inl (a, b)))⟩ => by rw [mkP, MkT, Bool.or_eq_true, h, Bool.and_eq_true, mkP_iff h a, mkP_iff h b]
  | ⟨.inr (.inr (.inr (k, n, a)))⟩ => by rw [mkP, MkT, Bool.or_eq_true, h, Bool.and_eq_true, h, mkP_iff h a]
/-- the term of a text can be made of the known texts -/
def CanT (S : Nat → ByteArray) (len : Nat) (s : ByteArray) : Prop := knownB S len = true ∧ ∃ t, Fit t ∧ t.txt = s ∧ MkT (fun u => OpT S len u.txt.toList) t
theorem CanT.at {S : Nat → ByteArray} {len : Nat} {t : Tr} (hf : Fit t) (hq : knownB S len = true) : CanT S len t.txt ↔ MkT (fun u => OpT S len u.txt.toList) t :=
  ⟨fun ⟨_, u, h1, h2, h3⟩ => by rw [← txt_inj h1 hf (by rw [h2])]; exact h3, fun h => ⟨hq, t, hf, rfl, h⟩⟩
theorem canT_bad {S : Nat → ByteArray} {len : Nat} {s : ByteArray} (h : knownB S len = false ∨ rT s = none) : ¬ CanT S len s := fun ⟨h1, t, h2, h3, _⟩ => by
  rcases h with h | h
  · rw [h] at h1; cases h1
  · rw [← h3, rT_txt h2.1 h2.2.1 h2.2.2] at h; cases h

set_option maxRecDepth 8000 in
set_option maxHeartbeats 4000000 in
theorem implCanMake_any (a : Option Addr) (len cap : Nat) (S : Nat → ByteArray) (s : ByteArray) (w : World) (h : IsStrs w a len cap S) (hS : ∀ i, i < len → (S i).size ≤ 1048576) (hs : s.size ≤ 1048576) (hP : Pow w) :
    Calls Tryz.prog 17 #[.slice a len cap, .string s] w fun e w' => ∃ b, e = .returned (.bool b) ∧ (b = true ↔ CanT S len s) ∧ Below w.heap.size w w' := by
  have HK : Hid (Calls Tryz.prog 33 #[.slice a len cap] w fun e w' => (∃ v, e = .returned (.tuple #[v, .bool (knownB S len)]) ∧ (knownB S len = true → ∃ L, TrL S len L ∧ w'.ownsRow w.heap.size 69 1 v len (L.map Tr.val))) ∧ Below w.heap.size w w') := knownTermsL_any a len cap S w h hS
  have HP : Hid (Pow w) := hP
  have HSS : Hid (s.size ≤ 1048576) := hs
  clear h hP hs
  cases hq : knownB S len with
  | false =>
    rw [hq] at HK
    have HQ : Hid (knownB S len = false) := hq
    clear hq
    go_enter Tryz.func17, Tryz.ntmps17
    go_wp2_with fail
    refine HK.out.mono ?_
    rintro e w1 ⟨⟨v, rfl, _⟩, hB1⟩
    have HB1 : Hid (Below w.heap.size w w1) := hB1
    clear hB1
    go_wp2
    go_ret
    exact ⟨false, rfl, ⟨fun h => (by cases h), fun h => absurd h (canT_bad (.inl HQ.out))⟩, HB1.out⟩
  | true =>
    rw [hq] at HK
    have HQ : Hid (knownB S len = true) := hq
    clear hq
    go_enter Tryz.func17, Tryz.ntmps17
    go_wp2_with fail
    refine HK.out.mono ?_
    rintro e w1 ⟨⟨v, rfl, hL⟩, hB1⟩
    obtain ⟨L, hT, hO⟩ := hL (by simp)
    have HT : Hid (TrL S len L) := hT
    have HB1 : Hid (Below w.heap.size w w1) := hB1
    obtain ⟨ta, tc, rfl, hIT⟩ : ∃ ta tc, v = .slice ta len tc ∧ IsTs w1 ta tc L := by
      have hl : L.length = len := hT.1
      rcases hO.2 with ⟨e1, e2⟩ | ⟨g, c, cur, e, _, hg, h1, h2, _⟩
      · exact ⟨none, 0, by rw [e1, e2], by omega, by decide, fun hp => by omega⟩
      · refine ⟨_, c, e, by omega, h2, fun _ => ⟨g, rfl, lt_of_block hg, fun i t ht => ?_⟩⟩
        have := hO.cells (g := g) (by rw [e]; rfl) i t.val (by rw [List.getElem?_map, ht]; rfl)
        rw [add_at, Nat.zero_add] at this
        exact this
    have hl30 : len ≤ 30 := (known_of HQ.out).1
    have HIT : Hid (IsTs w1 ta tc L) := hIT
    have HL30 : Hid (len ≤ 30) := hl30
    clear hL hT hO hB1 hIT hl30
    cases hrt : rT s with
    | none =>
      have HRT : Hid (rT s = none) := hrt
      go_wp2_with fail
      refine (termOfText_any s w1 HSS.out).mono ?_
      rintro e w2 ⟨rfl, hB2⟩
      rw [hrt]
      dsimp only [tup2]
      have HB2 : Hid (Below w.heap.size w w2) := HB1.out.trans (hB2.mono HB1.out.size)
      clear hB2 hrt
      go_wp2
      go_ret
      exact ⟨false, rfl, ⟨fun h => (by cases h), fun h => absurd h (canT_bad (.inr HRT.out))⟩, HB2.out⟩
    | some v =>
      obtain ⟨t, htv, hfit, htx⟩ := rT_fit hrt
      have HTT : Hid (t.val = v ∧ Fit t ∧ t.txt = s) := ⟨htv, hfit, htx⟩
      obtain ⟨T, u, rfl⟩ := rT_iface hrt
      clear htv hfit htx
      go_wp2_with fail
      refine (termOfText_any s w1 HSS.out).mono ?_
      rintro e w2 ⟨rfl, hB2⟩
      rw [hrt]
      dsimp only [tup2]
      have HB2 : Hid (Below w.heap.size w w2) := HB1.out.trans (hB2.mono HB1.out.size)
      have HI2 : Hid (IsTs w2 ta tc L) := ⟨HIT.out.1, HIT.out.2.1, fun h0 => by
        obtain ⟨g, e, h1, h2⟩ := HIT.out.2.2 h0
        exact ⟨g, e, Nat.lt_of_lt_of_le h1 hB2.size, fun i t ht => (hB2.cell (p := ⟨g, i, none⟩) h1).trans (h2 i t ht)⟩⟩
      clear hB2 hrt
      have HOP : Hid (Calls Tryz.prog 36 #[.slice ta len tc] w2 fun e w' => ∃ E, e = .returned (.map (some w2.heap.size)) ∧ SetOf w' w2.heap.size 4000 E ∧ (∀ x, has E (.string x) = true ↔ ∃ t, Op (fun u => u ∈ L) t ∧ t.txt.toList = x) ∧ Below w2.heap.size w2 w') := by
        have h1 := openedOf_any ta tc L w2 HI2.out (fun t ht => ((HT.out.mem t).1 ht).1) (by rw [HT.out.1]; have := HL30.out; omega) (HP.out.below HB2.out)
        rw [HT.out.1] at h1
        exact h1
      go_wp2_with fail
      refine HOP.out.mono ?_
      rintro e w3 ⟨E, rfl, hSE, hE, hB3⟩
      have HE : Hid (∀ u : Tr, hasE E u = true ↔ OpT S len u.txt.toList) := fun u => by
        show has E (.string u.txt.toList) = true ↔ _
        rw [hE]
        exact exists_congr fun t => and_congr ⟨fun ho => ho.mono fun u hu => (HT.out.mem u).1 hu, fun ho => ho.mono fun u hu => (HT.out.mem u).2 hu⟩ Iff.rfl
      have HB3 : Hid (Below w.heap.size w w3) := HB2.out.trans (hB3.mono HB2.out.size)
      have HC : Hid (Calls Tryz.prog 46 #[.map (some w2.heap.size), .iface T u] w3 fun e w' => e = .returned (.bool (mkP (hasE E) t)) ∧ Below w3.heap.size w3 w') := by
        have h1 := canBeMade_any (B := w2.heap.size) (nn := 4000) (E := E) t HTT.out.2.1 w3 hSE (HP.out.below HB3.out)
        rw [HTT.out.1] at h1
        exact h1
      clear hSE hE hB3 HOP HK
      go_wp2_with fail
      refine HC.out.mono ?_
      rintro e w4 ⟨rfl, hB4⟩
      have HB4 : Hid (Below w.heap.size w w4) := HB3.out.trans (hB4.mono HB3.out.size)
      clear hB4
      go_wp2
      go_ret
      refine ⟨_, rfl, ?_, HB4.out⟩
      rw [mkP_iff HE.out t, ← HTT.out.2.2, CanT.at HTT.out.2.1 HQ.out]

set_option maxRecDepth 8000 in
set_option maxHeartbeats 4000000 in
theorem specCanMake_any (a : Option Addr) (len cap : Nat) (S : Nat → ByteArray) (s : ByteArray) (w : World) (h : IsStrs w a len cap S) (hS : ∀ i, i < len → (S i).size ≤ 1048576) (hs : s.size ≤ 1048576) :
    Calls Tryz.prog 18 #[.slice a len cap, .string s] w fun e w' => ∃ b, e = .returned (.bool b) ∧ (b = true ↔ CanT S len s) ∧ Below w.heap.size w w' := by
  have HK : Hid (∀ v, Below w.heap.size w v → Calls Tryz.prog 13 #[.slice a len cap] v fun e w' => e = .returned (.bool (knownB S len)) ∧ Below v.heap.size v w') := fun v hB => specKnown_any a len cap S v (h.below hB) hS
  have HI : Hid (IsStrs w a len cap S) := h
  clear h
  cases hrt : rT s with
  | none =>
    have HR : Hid (Calls Tryz.prog 19 #[.string s] w fun e w' => e = .returned (.tuple #[.slice none 0 0, .bool false]) ∧ Below w.heap.size w w') := specRead_no s w hs hrt
    have HRT : Hid (rT s = none) := hrt
    clear hrt hs
    go_enter Tryz.func18, Tryz.ntmps18
    go_wp2_with fail
    refine HR.out.mono ?_
    rintro e w1 ⟨rfl, hB1⟩
    have HB1 : Hid (Below w.heap.size w w1) := hB1
    clear hB1
    obtain ⟨q, hq⟩ : ∃ q, q = knownB S len := ⟨_, rfl⟩
    rw [← hq] at HK
    go_wp2_with fail
    refine (HK.out w1 HB1.out).mono ?_
    rintro e w2 ⟨rfl, hB2⟩
    have HB2 : Hid (Below w.heap.size w w2) := HB1.out.trans (hB2.mono HB1.out.size)
    clear hB2 hq
    cases q with
    | false =>
      go_wp2
      go_ret
      exact ⟨false, rfl, ⟨fun h => (by cases h), fun h => absurd h (canT_bad (.inr HRT.out))⟩, HB2.out⟩
    | true =>
      go_wp2
      go_ret
      exact ⟨false, rfl, ⟨fun h => (by cases h), fun h => absurd h (canT_bad (.inr HRT.out))⟩, HB2.out⟩
  | some v =>
    obtain ⟨t, htv, hfit, htx⟩ := rT_fit hrt
    have hR := readFit t hfit w
    rw [htx] at hR
    obtain ⟨z, hz⟩ : ∃ z, z = t.size := ⟨_, rfl⟩
    rw [← hz] at hR
    have HR : Hid (Calls Tryz.prog 19 #[.string s] w fun e w' => ∃ a cap, e = .returned (.tuple #[.slice a z cap, .bool true]) ∧ IsNodes w' a z cap (ndK (t.flat 0)) (ndN (t.flat 0)) (ndA (t.flat 0)) (ndB (t.flat 0)) ∧ Below w.heap.size w w') := hR
    have hz1 : 1 ≤ z := by rw [hz]; exact Tr.size_pos t
    have hz2 : z ≤ 40 := by rw [hz]; exact hfit.2.1
    obtain ⟨m, hm⟩ : ∃ m, m = z - 1 := ⟨_, rfl⟩
    have hmI : (z : Int) - 1 = (m : Int) := by omega
    have hmw : IntKind.i64.wrap ((z : Int) - 1) = (m : Int) := by rw [IntKind.wrap_i64]; omega
    have HTT : Hid (Fit t ∧ t.txt = s ∧ z = t.size ∧ m + 1 = 0 + t.size ∧ m < z ∧ z ≤ 40) := ⟨hfit, htx, hz, by omega, by omega, hz2⟩
    have hmz : m < z := by omega
    have hmzI : (m : Int) < (z : Int) := by omega
    have hm0 : (0 : Int) ≤ (m : Int) := by omega
    clear hrt hs htv hfit htx hR hz hm
    obtain ⟨q, hq⟩ : ∃ q, q = knownB S len := ⟨_, rfl⟩
    have HQ : Hid (q = knownB S len) := hq
    rw [← hq] at HK
    clear hq
    go_enter Tryz.func18, Tryz.ntmps18
    go_wp2_with fail
    refine HR.out.mono ?_
    rintro e w1 ⟨ra, rc, rfl, hN, hB1⟩
    have HB1 : Hid (Below w.heap.size w w1) := hB1
    have HN : Hid (IsNodes w1 ra z rc (ndK (t.flat 0)) (ndN (t.flat 0)) (ndA (t.flat 0)) (ndB (t.flat 0))) := hN
    clear hB1 hN
    go_wp2_with fail
    refine (HK.out w1 HB1.out).mono ?_
    rintro e w2 ⟨rfl, hB2⟩
    have HB2 : Hid (Below w.heap.size w w2) := HB1.out.trans (hB2.mono HB1.out.size)
    have HN2 : Hid (IsNodes w2 ra z rc (ndK (t.flat 0)) (ndN (t.flat 0)) (ndA (t.flat 0)) (ndB (t.flat 0))) := HN.out.below hB2
    clear hB2
    cases q with
    | false =>
      go_wp2
      go_ret
      exact ⟨false, rfl, ⟨fun h => (by cases h), fun h => absurd h (canT_bad (.inl HQ.out.symm))⟩, HB2.out⟩
    | true =>
      have HO : Hid (Calls Tryz.prog 42 #[.slice a len cap] w2 fun e w' => ∃ go oc L, e = .returned (.slice (some ⟨go, 0, none⟩) L.length oc) ∧ OwnS w' w2.heap.size go oc L ∧ Up L ∧ (∀ x, x ∈ L ↔ OpT S len x) ∧ Below w2.heap.size w2 w') := l2Opened_any S len a cap w2 (HI.out.below HB2.out) HQ.out.symm
      go_wp2_with fail
      refine HO.out.mono ?_
      rintro e w3 ⟨go, oc, L, rfl, ho, hU, hM, hB3⟩
      have HB3 : Hid (Below w.heap.size w w3) := HB2.out.trans (hB3.mono HB2.out.size)
      have HE : Hid (∀ u : Tr, inM L u = true ↔ OpT S len u.txt.toList) := fun u => by unfold inM; rw [decide_eq_true_eq]; exact hM _
      have HC : Hid (Calls Tryz.prog 47 #[.slice (some ⟨go, 0, none⟩) L.length oc, .slice ra z rc, .int .i64 (m : Int)] w3 fun e w' => e = .returned (.bool (mkP (inM L) t)) ∧ Below w3.heap.size w3 w') :=
        l2Makes_any HTT.out.2.2.2.2.2 t 0 m HTT.out.1 (sits_nodes t) HTT.out.2.2.2.1 HTT.out.2.2.2.2.1 w3 (HN2.out.below hB3) ho
      have hcp := ho.caps
      obtain ⟨ml, hml⟩ : ∃ ml, ml = L.length := ⟨_, rfl⟩
      rw [← hml] at HC hcp ⊢
      obtain ⟨hcp1, hcp2⟩ := hcp
      clear ho hU hM hB3 HO hml
      go_wp2_with fail
      refine HC.out.mono ?_
      rintro e w4 ⟨rfl, hB4⟩
      have HB4 : Hid (Below w.heap.size w w4) := HB3.out.trans (hB4.mono HB3.out.size)
      clear hB4
      go_wp2
      go_ret
      refine ⟨_, rfl, ?_, HB4.out⟩
      rw [mkP_iff HE.out t, ← HTT.out.2.1, CanT.at HTT.out.1 HQ.out.symm]

end Go.Proofs.YtpcbhjejpebogaaGreatDoor
