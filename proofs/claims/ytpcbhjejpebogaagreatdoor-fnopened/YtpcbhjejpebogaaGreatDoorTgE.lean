/-
  DrawCanMake: drawn knowledge, and a text of a term that can be made, or of any. Condition: the code reads as bytes.
-/
import Derived.Test.YtpcbhjejpebogaaGreatDoorTgD
import Derived.Test.YtpcbhjejpebogaaGreatDoorTgS
namespace Go.Proofs.YtpcbhjejpebogaaGreatDoor
open Go.RowKit Go.Maps
set_option linter.unusedVariables false

section
variable {W : World} {a : Option Addr} {len cap R : Nat} {Z : Nat → Int}
theorem belowW_any (hU : IsU8 W a len cap Z) (n : Nat) (hn : 1 ≤ n) (hn2 : n ≤ 65536) (w : World) (h : Draw W a len cap R w) :
    Calls Tryz.prog 44 #[.pointer (some ⟨R, 0, none⟩), .int .i64 (n : Int)] w fun e w' => ∃ y : Nat, y < n ∧ e = .returned (.int .i64 (y : Int)) ∧ Draw W a len cap R w' ∧ Mut R w w' := by
  by_cases h1 : n ≤ 256
  · exact belowN_any hU n hn h1 w h
  · have HU := (show Hid _ from hU)
    have H := (show Hid _ from h)
    have h2 : ¬ (n : Int) ≤ 1 := by omega
    have h3 : ¬ (n : Int) ≤ 256 := by omega
    have h0 : ¬ (n : Int) = 0 := by omega
    clear hU h
    go_enter Tryz.func44, Tryz.ntmps44
    go_wp2_with fail
    refine (next_any HU.out _ H.out).mono ?_
    rintro e w1 ⟨x, hx0, hx1, rfl, hD1, hM1⟩
    have HD1 := (show Hid _ from hD1)
    have HM1 := (show Hid _ from hM1)
    clear hD1 hM1
    go_wp2_with fail
    refine (next_any HU.out _ HD1.out).mono ?_
    rintro e w2 ⟨z, hz0, hz1, rfl, hD2, hM2⟩
    have HD2 := (show Hid _ from hD2)
    have HM2 := (show Hid _ from HM1.out.trans hM2)
    clear hD2 hM2
    have hxz : 0 ≤ x * 256 + z ∧ x * 256 + z ≤ 65535 := by omega
    go_wp2
    go_ret
    exact ⟨((x * 256 + z) % n).toNat, by have := Int.emod_lt_of_pos (x * 256 + z) (show (0 : Int) < n by omega); have := Int.emod_nonneg (x * 256 + z) (show (n : Int) ≠ 0 by omega); omega, by rw [Int.toNat_of_nonneg (Int.emod_nonneg _ (by omega))]; rfl, HD2.out, HM2.out⟩

end

/-- small: what is opened of drawn knowledge -/
def SmT (t : Tr) : Prop := t.Ok ∧ t.size ≤ 15 ∧ t.deep ≤ 4
theorem sm_shut : Shut SmT := by
  refine ⟨fun t u h => ?_, fun n t h => ?_, fun n t h _ => ?_⟩
  · unfold pairT SmT at h
    rw [Tr.Ok, Tr.size, Tr.deep] at h
    exact ⟨⟨h.1.1, by omega, by omega⟩, ⟨h.1.2, by omega, by omega⟩⟩
  · unfold signT SmT at h
    rw [Tr.Ok, Tr.size, Tr.deep] at h
    exact ⟨h.1.2.2, by omega, by omega⟩
  · unfold sealT SmT at h
    rw [Tr.Ok, Tr.size, Tr.deep] at h
    exact ⟨h.1.2.2, by omega, by omega⟩
theorem TD.sm {t : Tr} (h : TD 3 t) : SmT t := ⟨h.1.ok, by have := h.2.1; omega, by have := h.2.2; omega⟩
theorem kn_sm {L : List (List UInt8)} (h : KLow L) {u : Tr} (hu : Kn (atL L) L.length u) : SmT u := by
  obtain ⟨hf, hm⟩ := (kn_list L u).1 hu
  obtain ⟨t, ht, e⟩ := h _ hm
  rw [← txt_inj (ht.fit (by omega)) hf e]
  exact ht.sm
/-- a term that DrawCanMake may tell -/
def DT (t : Tr) : Prop := t.Ok ∧ t.size ≤ 17 ∧ t.deep ≤ 5
theorem DT.small {t : Tr} (h : DT t) : t.txt.size ≤ 50000 := by have := Tr.txt_size t h.1; have := h.2.1; omega
theorem DT.fit {t : Tr} (h : DT t) : Fit t := ⟨h.1, by have := h.2.1; omega, by have := h.2.2; omega⟩
theorem SmT.dt {t : Tr} (h : SmT t) : DT t := ⟨h.1, by have := h.2.1; omega, by have := h.2.2; omega⟩
theorem SmT.dtHash {t : Tr} (h : SmT t) : DT ⟨.inr (.inl t)⟩ := ⟨by rw [Tr.Ok]; exact h.1, by simp only [Tr.size]; have := h.2.1; omega, by simp only [Tr.deep]; have := h.2.2; omega⟩
theorem SmT.dtPair {t : Tr} (h : SmT t) : DT ⟨.inr (.inr (.inl (⟨.inl (1, 1)⟩, t)))⟩ := ⟨by rw [Tr.Ok, Tr.Ok]; exact ⟨⟨.inl rfl, by omega⟩, h.1⟩, by simp only [Tr.size]; have := h.2.1; omega, by simp only [Tr.deep]; have := h.2.2; omega⟩
theorem SmT.dtSeal {t : Tr} (h : SmT t) : DT ⟨.inr (.inr (.inr (6, 1, t)))⟩ := ⟨by rw [Tr.Ok]; exact ⟨.inl rfl, by omega, h.1⟩, by simp only [Tr.size]; have := h.2.1; omega, by simp only [Tr.deep]; have := h.2.2; omega⟩
theorem pair_txt (t : Tr) : (⟨.inr (.inr (.inl (⟨.inl (1, 1)⟩, t)))⟩ : Tr).txt = (⟨#[112, 40, 97, 49, 44]⟩ ++ t.txt) ++ ⟨#[41]⟩ := by
  rw [Tr.txt, a1_txt]
  rfl
theorem seal_txt (t : Tr) : (⟨.inr (.inr (.inr (6, 1, t)))⟩ : Tr).txt = (⟨#[101, 40, 107, 49, 44]⟩ ++ t.txt) ++ ⟨#[41]⟩ := by
  rw [Tr.txt, show (Tr.head 6 ++ decB 1) ++ (⟨#[44]⟩ : ByteArray) = ⟨#[101, 40, 107, 49, 44]⟩ by decide +kernel]
theorem wp_letterX {c : Code} {P : Program} {Q : Exit → Act → World → Prop} {a : Act} {w : World} (h : ∀ a', a' = a → c.wp P Q a' w) : c.wp P Q a w := h a rfl
theorem cellX {w : World} {p : Nat} {cs : Array Value} {t : TypeId} {z : Nat × Nat} {i : Nat} {v : Value} (h : w.heap[p]? = some (.cells cs t z)) (hv : cs[i]? = some v) : w.cell? ⟨p, i, none⟩ = some v := by
  simp [World.cell?, h, hv]
theorem q_addX (ev : Operand → Value) (o : Oper) (w : World) (x y : Operand) (a b : ByteArray) (h : o.op = .binOp .add 9 x y 9) (hx : ev x = .string a) (hy : ev y = .string b) (hs : a.size + b.size ≤ 1000000) : (execOp ev o).run Tryz.prog w = .ok (.value (.string (a ++ b))) w := by
  have ha := add_ok hs w
  simp [execOp, h, hx, hy]
  go_simp
  omega
theorem q_build4 (ev : Operand → Value) (o : Oper) (w : World) (x y z u : Operand) (s t p q : ByteArray) (h : o.op = .buildSlice 24 4 #[(0, x), (1, y), (2, z), (3, u)]) (hx : ev x = .string s) (hy : ev y = .string t) (hz : ev z = .string p) (hu : ev u = .string q) : (execOp ev o).run Tryz.prog w = .ok (.value (.slice (some ⟨w.heap.size, 0, none⟩) 4 4)) (w.alloc (.cells #[.string s, .string t, .string p, .string q] 9)) := by
  simp [execOp, h, hx, hy, hz, hu]
  go_simp
theorem q_idxX (ev : Operand → Value) (o : Oper) (w : World) (x y : Operand) (p k : Nat) (h : o.op = .indexAddr 24 x y) (hx : ev x = .slice (some ⟨p, 0, none⟩) 4 4) (hy : ev y = .int .i64 k) (hk : k < 4) : (execOp ev o).run Tryz.prog w = .ok (.value (.pointer (some ⟨p, k, none⟩))) w := by
  have hkI : (k : Int) < 4 := by omega
  simp [execOp, h, hx, hy]
  go_simp
theorem q_loadX (ev : Operand → Value) (o : Oper) (w : World) (x : Operand) (p k : Nat) (c : ByteArray) (h : o.op = .load 9 x) (hx : ev x = .pointer (some ⟨p, k, none⟩)) (hc : w.cell? ⟨p, k, none⟩ = some (.string c)) : (execOp ev o).run Tryz.prog w = .ok (.value (.string c)) w := by
  simp [execOp, h, hx]
  go_simp
/-- four texts of such terms -/
def Four (w : World) (R p : Nat) : Prop := ∃ t0 t1 t2 t3 : Tr, DT t0 ∧ DT t1 ∧ DT t2 ∧ DT t3 ∧ p ≠ R ∧ w.heap[p]? = some (.cells #[.string t0.txt, .string t1.txt, .string t2.txt, .string t3.txt] 9 (0, 0))
theorem Four.mut {w w' : World} {R p : Nat} (h : Four w R p) (hM : Mut R w w') : Four w' R p := by
  obtain ⟨t0, t1, t2, t3, h0, h1, h2, h3, hp, hb⟩ := h
  exact ⟨t0, t1, t2, t3, h0, h1, h2, h3, hp, (hM.block p (lt_of_block hb) hp).trans hb⟩
theorem Four.at {w : World} {R p y : Nat} (h : Four w R p) (hy : y < 4) : ∃ t, DT t ∧ w.cell? ⟨p, y, none⟩ = some (.string t.txt) := by
  obtain ⟨t0, t1, t2, t3, h0, h1, h2, h3, hp, hb⟩ := h
  rcases (show y = 0 ∨ y = 1 ∨ y = 2 ∨ y = 3 by omega) with rfl | rfl | rfl | rfl
  · exact ⟨t0, h0, cellX hb rfl⟩
  · exact ⟨t1, h1, cellX hb rfl⟩
  · exact ⟨t2, h2, cellX hb rfl⟩
  · exact ⟨t3, h3, cellX hb rfl⟩
def dsX : List Nat := [28, 29, 30, 31, 32, 33, 34, 35, 36, 37, 38, 39, 40, 41, 42, 43, 2, 3]
def slotX (j : Nat) : Nat := dsX.getD j 0
theorem slotX_inj (i j : Nat) (hi : i < 18) (hj : j < 18) (q : slotX i = slotX j) : i = j := by
  have h : ∀ i : Fin 18, ∀ j : Fin 18, slotX i.val = slotX j.val → i.val = j.val := by decide
  exact h ⟨i, hi⟩ ⟨j, hj⟩ q
theorem slotX_mem (i : Nat) (hi : i < 18) : slotX i ∈ dsX := by
  have h : ∀ i : Fin 18, slotX i.val ∈ dsX := by decide
  exact h ⟨i, hi⟩
/-- of the values of the region -/
def XF (R g m c : Nat) (x : Tr) : Nat → Value → World → Prop
  | 0, v, _ => v = .slice (some ⟨g, 0, none⟩) m c
  | 1, v, _ => v = .string x.txt
  | 2, v, _ => v = .string x.txt
  | 3, v, _ => v = .string (⟨#[104, 40]⟩ ++ x.txt)
  | 4, v, _ => ∃ t, DT t ∧ v = .string t.txt
  | 5, v, _ => v = .string x.txt
  | 6, v, _ => v = .string (⟨#[112, 40, 97, 49, 44]⟩ ++ x.txt)
  | 7, v, _ => ∃ t, DT t ∧ v = .string t.txt
  | 8, v, _ => v = .string x.txt
  | 9, v, _ => v = .string (⟨#[101, 40, 107, 49, 44]⟩ ++ x.txt)
  | 10, v, _ => ∃ t, DT t ∧ v = .string t.txt
  | 11, v, w => ∃ p, v = .slice (some ⟨p, 0, none⟩) 4 4 ∧ Four w R p
  | 12, v, _ => v = .pointer (some ⟨R, 0, none⟩)
  | 13, v, _ => ∃ y : Nat, y < 4 ∧ v = .int .i64 y
  | 14, v, w => ∃ p y : Nat, y < 4 ∧ v = .pointer (some ⟨p, y, none⟩) ∧ Four w R p
  | 15, v, _ => ∃ t, DT t ∧ v = .string t.txt
  | 16, v, _ => v = .slice (some ⟨g, 0, none⟩) m c
  | 17, v, _ => ∃ t, DT t ∧ v = .string t.txt
  | _, _, _ => True
theorem XF.mut {R g m c : Nat} {x : Tr} {j : Nat} {v : Value} {w w' : World} (h : XF R g m c x j v w) (hM : Mut R w w') : XF R g m c x j v w' := by
  match j, h with
  | 0, h => exact h
  | 1, h => exact h
  | 2, h => exact h
  | 3, h => exact h
  | 4, h => exact h
  | 5, h => exact h
  | 6, h => exact h
  | 7, h => exact h
  | 8, h => exact h
  | 9, h => exact h
  | 10, h => exact h
  | 11, ⟨p, e, hp⟩ => exact ⟨p, e, hp.mut hM⟩
  | 12, h => exact h
  | 13, h => exact h
  | 14, ⟨p, y, hy, e, hp⟩ => exact ⟨p, y, hy, e, hp.mut hM⟩
  | 15, h => exact h
  | 16, h => exact h
  | 17, h => exact h
  | (n + 18), _ => trivial

set_option maxRecDepth 8000 in
set_option maxHeartbeats 8000000 in
theorem drawCanMake_any (a : Option Addr) (len cap : Nat) (Z : Nat → Int) (w : World) (hU : IsU8 w a len cap Z) :
    Calls Tryz.prog 16 #[.slice a len cap] w fun e w' => ∃ g c L t, e = .returned (.tuple #[.slice (some ⟨g, 0, none⟩) L.length c, .string t.txt]) ∧ OwnS w' w.heap.size g c L ∧ L.length ≤ 8 ∧ KLow L ∧ DT t ∧ Below w.heap.size w w' := by
  have HTM : Hid (∀ (R : Nat) (v : World), Draw w a len cap R v → Calls Tryz.prog 32 #[.pointer (some ⟨R, 0, none⟩), .int .i64 3] v fun e w' => ∃ t : Tr, TD 3 t ∧ e = .returned (.string t.txt) ∧ Draw w a len cap R w' ∧ Mut R v w') := fun R v hv => drTerm_any hU 3 (by omega) v hv
  go_enter Tryz.func16, Tryz.ntmps16
  go_wp2_with fail
  refine (openD_any a len cap w).mono ?_
  rintro e w1 ⟨rfl, hD1⟩
  obtain ⟨R, hR⟩ : ∃ R, R = w.heap.size := ⟨_, rfl⟩
  have HR : Hid (R = w.heap.size) := hR
  rw [← hR] at hD1 ⊢
  clear hR
  go_wp2_with fail
  refine (drKnown_any hU w1 hD1).mono ?_
  rintro e w2 ⟨g, c, L, rfl, ho, hl, hk, hD2⟩
  have HO2 : Hid (OwnS w2 (R + 1) g c L) := ho
  have HL : Hid (L.length ≤ 8 ∧ KLow L) := ⟨hl, hk⟩
  have HD2 : Hid (Draw w a len cap R w2) := hD2
  have HOP : Hid (Calls Tryz.prog 12 #[.slice (some ⟨g, 0, none⟩) L.length c] w2 fun e w' => ∃ v M, e = .returned v ∧ OwnL w' w2.heap.size v M ∧ OpR (atL L) L.length M ∧ Below w2.heap.size w2 w') := specOpened_any _ _ _ _ w2 HO2.out.strs HL.out.2.sizes
  obtain ⟨m, hm⟩ : ∃ m, m = L.length := ⟨_, rfl⟩
  have HM : Hid (m = L.length) := hm
  rw [← hm] at HOP ⊢
  clear hm ho hl hk hD1 hD2
  go_wp2_with fail
  refine HOP.out.mono ?_
  rintro e w3 ⟨v, M, rfl, hoM, hMR, hB3⟩
  have HO3 : Hid (OwnS w3 (R + 1) g c L) := HO2.out.below hB3
  have HD3 : Hid (Draw w a len cap R w3) := HD2.out.below hB3
  obtain ⟨ma, mc, rfl, hI, hq⟩ := hoM.strs2
  have HI : Hid (IsStrs w3 ma M.length mc (atL M)) := hI
  have HQ : Hid (∀ b off, ma = some ⟨b, off, none⟩ → R < b) := fun b off e => by
    have h1 := (hq b off e).1
    have h2 := HD2.out.lt
    omega
  have HMR : Hid (OpR (atL L) m M) := hMR
  obtain ⟨k, hkm⟩ : ∃ k, k = M.length := ⟨_, rfl⟩
  have HKM : Hid (k = M.length) := hkm
  rw [← hkm] at HI ⊢
  have hk4 : k ≤ 4000 := by
    rw [hkm]
    exact OpR.small HMR.out
  clear hoM hMR hB3 hI hq hkm HOP
  have HEND : Hid (∀ (v : World) (t : Tr), OwnS v (R + 1) g c L → Draw w a len cap R v → DT t → ∃ g' c' L' t', Ending.returned (.tuple #[.slice (some ⟨g, 0, none⟩) m c, .string t.txt]) = .returned (.tuple #[.slice (some ⟨g', 0, none⟩) L'.length c', .string t'.txt]) ∧ OwnS v w.heap.size g' c' L' ∧ L'.length ≤ 8 ∧ KLow L' ∧ DT t' ∧ Below w.heap.size w v) := fun v t ho hd ht => ⟨g, c, L, t, by rw [HM.out], mono_base ho (by have := HR.out; omega), HL.out.1, HL.out.2, ht, hd.bel⟩
  by_cases h0 : 0 < k
  · have h0I : (0 : Int) < (k : Int) := by omega
    go_wp2_with fail
    refine (once_any hU 2 (by omega) (by omega) w3 HD3.out).mono ?_
    rintro e w4 ⟨x, rfl, hD4, hM4⟩
    have HO4 : Hid (OwnS w4 (R + 1) g c L) := HO3.out.mut hM4 (by omega)
    have HD4 : Hid (Draw w a len cap R w4) := hD4
    have HI4 : Hid (IsStrs w4 ma k mc (atL M)) := HI.out.kept (p := fun b => b ≠ R) ⟨hM4.os, hM4.tape, hM4.output, hM4.size, hM4.block⟩ (fun b off e => by have := HQ.out b off e; omega)
    clear hD4 hM4
    cases x with
    | false =>
      go_wp2_with fail
      refine (HTM.out R w4 HD4.out).mono ?_
      rintro e w5 ⟨t, hT, rfl, hD5, hM5⟩
      have HE : Hid (OwnS w5 (R + 1) g c L ∧ Draw w a len cap R w5 ∧ DT t) := ⟨HO4.out.mut hM5 (by omega), hD5, hT.sm.dt⟩
      clear hT hD5 hM5
      go_wp2
      go_ret2
      exact HEND.out w5 t HE.out.1 HE.out.2.1 HE.out.2.2
    | true =>
      go_wp2_with fail
      refine (belowW_any hU k (by omega) (by omega) w4 HD4.out).mono ?_
      rintro e w5 ⟨y, hy, rfl, hD5, hM5⟩
      have HO5 : Hid (OwnS w5 (R + 1) g c L) := HO4.out.mut hM5 (by omega)
      have HD5 : Hid (Draw w a len cap R w5) := hD5
      obtain ⟨h51, h52, h53⟩ := HI4.out.kept (p := fun b => b ≠ R) ⟨hM5.os, hM5.tape, hM5.output, hM5.size, hM5.block⟩ (fun b off e => by have := HQ.out b off e; omega)
      obtain ⟨b, off, rfl, hbs, hcell⟩ := h53 (by omega)
      have d1 := hcell y hy
      have hyI : (y : Int) < (k : Int) := by omega
      obtain ⟨x, hxf, hx⟩ : ∃ x : Tr, SmT x ∧ x.txt = atL M y := by
        have hq : knownB (atL L) m = true := by
          cases hq : knownB (atL L) m with
          | true => rfl
          | false =>
            have h1 := HMR.out.2 hq
            have h2 := HKM.out
            rw [h1] at h2
            simp at h2
            omega
        have hyM : y < M.length := by rw [← HKM.out]; exact hy
        have hmem : M.getD y [] ∈ M := by
          simp only [List.getD, List.getElem?_eq_getElem hyM, Option.getD_some]
          exact List.getElem_mem hyM
        obtain ⟨t, ht, e⟩ := ((HMR.out.1 hq).2 _).1 hmem
        rw [HM.out] at ht
        exact ⟨t, ht SmT (fun u hu => kn_sm HL.out.2 hu) sm_shut, bytes_eqP (by rw [e, atL_list])⟩
      rw [← hx] at d1
      have HXF : Hid (SmT x) := hxf
      have hxs : x.txt.size ≤ 41000 := by have := Tr.txt_size x hxf.1; have := hxf.2.1; omega
      have en1 : ∀ args w, (callFunc 44 args).run Tryz.prog w = .ok (.enter 44 args) w := enters_of Tryz.func44 (by kernel_rfl) rfl
      have HEN : Hid (∀ args w, (callFunc 44 args).run Tryz.prog w = .ok (.enter 44 args) w) := en1
      clear hD5 hM5 h51 h52 h53 hbs hcell hx hxf en1
      go_wp2_with fail
      refine wp_cut_to (fun a0 t w' => ∃ f tt, t = canon a0 dsX f ∧ DT tt ∧ f 2 = .slice (some ⟨g, 0, none⟩) m c ∧ f 3 = .string tt.txt ∧ Draw w a len cap R w' ∧ OwnS w' (R + 1) g c L) ?_ ?_
      · rintro _ wy ⟨f, tt, rfl, ht, h2, h3, hy, hy2⟩
        simp only [canon, dsX, List.foldl, Act.put, List.setIfInBounds_toArray, List.set_cons_succ, List.set_cons_zero]
        rw [h2, h3]
        have HY : Hid (Draw w a len cap R wy ∧ OwnS wy (R + 1) g c L ∧ DT tt) := ⟨hy, hy2, ht⟩
        clear hy hy2 ht
        go_wp2
        go_ret2
        exact HEND.out wy tt HY.out.2.1 HY.out.1 HY.out.2.2
      intro J K' hJ hK
      refine wp_letterX ?_
      intro fr hfr
      have hs7 : 43 < fr.tmps.size := by rw [hfr]; exact Nat.le_of_ble_eq_true rfl
      have t4 : fr.eval (.tmp 4) = .pointer (some ⟨R, 0, none⟩) := by rw [hfr]; rfl
      have t5 : fr.eval (.tmp 5) = .slice (some ⟨g, 0, none⟩) m c := by rw [hfr]; rfl
      have t7 : fr.eval (.tmp 7) = .string x.txt := by rw [hfr]; rfl
      have HFR : Hid _ := hfr
      clear hfr
      have rr : ∀ w', (fun v v' => Mut R v v' ∧ (Draw w a len cap R v → Draw w a len cap R v')) w' w' := fun w' => ⟨Mut.refl R w', fun h => h⟩
      refine wp_region_rel (Rel := fun v v' => Mut R v v' ∧ (Draw w a len cap R v → Draw w a len cap R v')) rr (fun h k => ⟨h.1.trans k.1, fun q => k.2 (h.2 q)⟩) (fun v => ⟨Mut.of_below (Below.refl _ _).drew, fun h => h.below (Below.refl _ _).drew⟩) (by kernel_rfl) (by kernel_rfl) dsX slotX (XF R g m c x) (fun _ _ _ _ h hB => h.mut hB.1) ?_ ?_ ?_ ?_
      · intro i hi
        exact slotX_mem i hi
      · intro i j hi hj q
        exact slotX_inj i j hi hj q
      · intro ops hops f wy i o hy ho hd
        have ho2 := ho
        rw [hops] at ho
        have N4 := (canon_eval_ne fr dsX f 4 (by decide)).trans t4
        have N5 := (canon_eval_ne fr dsX f 5 (by decide)).trans t5
        have N7 := (canon_eval_ne fr dsX f 7 (by decide)).trans t7
        have ev : ∀ d, d ∈ dsX → d < 44 → (canon fr dsX f).eval (.tmp d) = f d := fun d h1 h2 => canon_eval fr dsX f d h1 (by omega)
        have hi : i < 18 := by
          rcases Nat.lt_or_ge i 18 with h | h
          · exact h
          · rw [Array.getElem?_eq_none (by simpa using h)] at ho; cases ho
        have hi' : i = 0 ∨ i = 1 ∨ i = 2 ∨ i = 3 ∨ i = 4 ∨ i = 5 ∨ i = 6 ∨ i = 7 ∨ i = 8 ∨ i = 9 ∨ i = 10 ∨ i = 11 ∨ i = 12 ∨ i = 13 ∨ i = 14 ∨ i = 15 ∨ i = 16 ∨ i = 17 := by omega
        clear hops
        rcases hi' with rfl | rfl | rfl | rfl | rfl | rfl | rfl | rfl | rfl | rfl | rfl | rfl | rfl | rfl | rfl | rfl | rfl | rfl <;> simp only [List.getElem?_toArray, List.getElem?_cons_succ, List.getElem?_cons_zero, Option.some.injEq] at ho <;> subst ho
        · refine wpOp_runG ho2 (wanted_none rfl) (q_moveP (canon fr dsX f).eval _ wy _ rfl) ?_
          exact ⟨_, rfl, N5, rr wy⟩
        · refine wpOp_runG ho2 (wanted_none rfl) (q_moveP (canon fr dsX f).eval _ wy _ rfl) ?_
          exact ⟨_, rfl, N7, rr wy⟩
        · refine wpOp_runG ho2 (wanted_none rfl) (q_moveP (canon fr dsX f).eval _ wy _ rfl) ?_
          exact ⟨_, rfl, N7, rr wy⟩
        · refine wpOp_runG ho2 (wanted_none rfl) (q_addX (canon fr dsX f).eval _ wy _ _ ⟨#[104, 40]⟩ x.txt rfl rfl ((ev 30 (by decide) (by decide)).trans (hd ⟨2, .data⟩ (by simp) rfl)) (by have e : (ByteArray.mk #[104, 40]).size = 2 := rfl; omega)) ?_
          exact ⟨_, rfl, rfl, rr wy⟩
        · refine wpOp_runG ho2 (wanted_none rfl) (q_addX (canon fr dsX f).eval _ wy _ _ (ByteArray.mk #[104, 40] ++ x.txt) ⟨#[41]⟩ rfl ((ev 31 (by decide) (by decide)).trans (hd ⟨3, .data⟩ (by simp) rfl)) rfl (by rw [ByteArray.size_append]; have e : (ByteArray.mk #[104, 40]).size = 2 := rfl; have e2 : (ByteArray.mk #[41]).size = 1 := rfl; omega)) ?_
          exact ⟨_, rfl, ⟨_, HXF.out.dtHash, by rw [Tr.txt]⟩, rr wy⟩
        · refine wpOp_runG ho2 (wanted_none rfl) (q_moveP (canon fr dsX f).eval _ wy _ rfl) ?_
          exact ⟨_, rfl, N7, rr wy⟩
        · refine wpOp_runG ho2 (wanted_none rfl) (q_addX (canon fr dsX f).eval _ wy _ _ ⟨#[112, 40, 97, 49, 44]⟩ x.txt rfl rfl ((ev 33 (by decide) (by decide)).trans (hd ⟨5, .data⟩ (by simp) rfl)) (by have e : (ByteArray.mk #[112, 40, 97, 49, 44]).size = 5 := rfl; omega)) ?_
          exact ⟨_, rfl, rfl, rr wy⟩
        · refine wpOp_runG ho2 (wanted_none rfl) (q_addX (canon fr dsX f).eval _ wy _ _ (ByteArray.mk #[112, 40, 97, 49, 44] ++ x.txt) ⟨#[41]⟩ rfl ((ev 34 (by decide) (by decide)).trans (hd ⟨6, .data⟩ (by simp) rfl)) rfl (by rw [ByteArray.size_append]; have e : (ByteArray.mk #[112, 40, 97, 49, 44]).size = 5 := rfl; have e2 : (ByteArray.mk #[41]).size = 1 := rfl; omega)) ?_
          exact ⟨_, rfl, ⟨_, HXF.out.dtPair, by rw [pair_txt]⟩, rr wy⟩
        · refine wpOp_runG ho2 (wanted_none rfl) (q_moveP (canon fr dsX f).eval _ wy _ rfl) ?_
          exact ⟨_, rfl, N7, rr wy⟩
        · refine wpOp_runG ho2 (wanted_none rfl) (q_addX (canon fr dsX f).eval _ wy _ _ ⟨#[101, 40, 107, 49, 44]⟩ x.txt rfl rfl ((ev 36 (by decide) (by decide)).trans (hd ⟨8, .data⟩ (by simp) rfl)) (by have e : (ByteArray.mk #[101, 40, 107, 49, 44]).size = 5 := rfl; omega)) ?_
          exact ⟨_, rfl, rfl, rr wy⟩
        · refine wpOp_runG ho2 (wanted_none rfl) (q_addX (canon fr dsX f).eval _ wy _ _ (ByteArray.mk #[101, 40, 107, 49, 44] ++ x.txt) ⟨#[41]⟩ rfl ((ev 37 (by decide) (by decide)).trans (hd ⟨9, .data⟩ (by simp) rfl)) rfl (by rw [ByteArray.size_append]; have e : (ByteArray.mk #[101, 40, 107, 49, 44]).size = 5 := rfl; have e2 : (ByteArray.mk #[41]).size = 1 := rfl; omega)) ?_
          exact ⟨_, rfl, ⟨_, HXF.out.dtSeal, by rw [seal_txt]⟩, rr wy⟩
        · obtain ⟨t1, h1, e1⟩ := (hd ⟨4, .data⟩ (by simp) rfl)
          obtain ⟨t2, h2, e2⟩ := (hd ⟨7, .data⟩ (by simp) rfl)
          obtain ⟨t3, h3, e3⟩ := (hd ⟨10, .data⟩ (by simp) rfl)
          refine wpOp_runG ho2 (wanted_none rfl) (q_build4 (canon fr dsX f).eval _ wy _ _ _ _ x.txt t1.txt t2.txt t3.txt rfl ((ev 29 (by decide) (by decide)).trans (hd ⟨1, .data⟩ (by simp) rfl)) ((ev 32 (by decide) (by decide)).trans e1) ((ev 35 (by decide) (by decide)).trans e2) ((ev 38 (by decide) (by decide)).trans e3)) ?_
          exact ⟨_, rfl, ⟨_, rfl, x, t1, t2, t3, HXF.out.dt, h1, h2, h3, Nat.ne_of_gt (Nat.lt_of_lt_of_le (Draw.lt HD5.out) hy.1.size), heap_alloc_new _ _⟩, ⟨(Mut.refl R wy).alloc _, fun h => h.alloc _⟩⟩
        · refine wpOp_runG ho2 (wanted_none rfl) (q_moveP (canon fr dsX f).eval _ wy _ rfl) ?_
          exact ⟨_, rfl, N4, rr wy⟩
        · refine wpOp_enterG ho2 (wanted_none rfl) (q_call2P (canon fr dsX f).eval _ wy _ HEN.out _ _ _ rfl rfl) ?_
          rw [(ev 40 (by decide) (by decide)).trans (hd ⟨12, .data⟩ (by simp) rfl)]
          refine (belowN_any hU 4 (by omega) (by omega) wy (hy.2 HD5.out)).mono ?_
          rintro e wz ⟨y, hy4, rfl, hDz, hMz⟩
          exact ⟨_, rfl, _, rfl, ⟨y, hy4, rfl⟩, hMz, fun _ => hDz⟩
        · obtain ⟨p, hp, hF⟩ := (hd ⟨11, .data⟩ (by simp) rfl)
          obtain ⟨y, hy4, hyv⟩ := (hd ⟨13, .data⟩ (by simp) rfl)
          refine wpOp_runG ho2 (wanted_none rfl) (q_idxX (canon fr dsX f).eval _ wy _ _ p y rfl ((ev 39 (by decide) (by decide)).trans hp) ((ev 41 (by decide) (by decide)).trans hyv) hy4) ?_
          exact ⟨_, rfl, ⟨p, y, hy4, rfl, hF⟩, rr wy⟩
        · obtain ⟨p, y, hy4, hpv, hF⟩ := (hd ⟨14, .data⟩ (by simp) rfl)
          obtain ⟨t, ht, hc⟩ := hF.at hy4
          refine wpOp_runG ho2 (wanted_none rfl) (q_loadX (canon fr dsX f).eval _ wy _ p y t.txt rfl ((ev 42 (by decide) (by decide)).trans hpv) hc) ?_
          exact ⟨_, rfl, ⟨t, ht, rfl⟩, rr wy⟩
        · refine wpOp_runG ho2 (wanted_none rfl) (q_assignP (canon fr dsX f).eval _ wy _ rfl) ?_
          exact ⟨_, rfl, (ev 28 (by decide) (by decide)).trans (hd ⟨0, .data⟩ (by simp) rfl), rr wy⟩
        · obtain ⟨t, ht, e⟩ := (hd ⟨15, .data⟩ (by simp) rfl)
          refine wpOp_runG ho2 (wanted_none rfl) (q_assignP (canon fr dsX f).eval _ wy _ rfl) ?_
          exact ⟨_, rfl, ⟨t, ht, (ev 43 (by decide) (by decide)).trans e⟩, rr wy⟩
      · intro f wy hy hall
        obtain ⟨t, ht, e⟩ := hall 17 (by decide)
        exact hK _ _ (Met.intro (hJ _ _ ⟨f, t, congrArg (fun z => canon z dsX f) HFR.out, ht, hall 16 (by decide), e, hy.2 HD5.out, HO5.out.mut hy.1 (by omega)⟩))
  · have h0I : ¬ (0 : Int) < (k : Int) := by omega
    go_wp2_with fail
    refine (HTM.out R w3 HD3.out).mono ?_
    rintro e w5 ⟨t, hT, rfl, hD5, hM5⟩
    have HE : Hid (OwnS w5 (R + 1) g c L ∧ Draw w a len cap R w5 ∧ DT t) := ⟨HO3.out.mut hM5 (by omega), hD5, hT.sm.dt⟩
    clear hT hD5 hM5
    go_wp2
    go_ret2
    exact HEND.out w5 t HE.out.1 HE.out.2.1 HE.out.2.2
end Go.Proofs.YtpcbhjejpebogaaGreatDoor
