/-
  The drawing of FnLacking: a dag and ids. Condition: the code reads as bytes.
  The law FnLacking returns true at every code. Condition: the code reads as bytes, the tables lie.
  A code that came in reads as bytes. No condition.
-/
import Derived.Test.YtlibipbpaigmdaaGreatDoorDgF
import Derived.Test.YtlibipbpaigmdaaGreatDoorDgC
import Derived.Test.YtlibipbpaigmdaaGreatDoorDagOpen
import Derived.ProofKit
import Derived.OpenShut
import Derived.Deep.DeepHandedRow
namespace Go.Proofs.YtlibipbpaigmdaaGreatDoor
open Go.RowKit
set_option linter.unusedVariables false

theorem range_enc (T : List (List UInt8)) : ((List.range T.length).map fun i => Value.string (atL T i)) = T.map encStr := by
  apply List.ext_getElem
  · simp
  · intro i h1 h2
    simp at h1
    simp [atL, tx, encStr, h1]
theorem own_nil {w : World} {base size n c : Nat} {t : TypeId} {xs : List Value} {u : Option Addr} (h : w.ownsRow base t size (.slice u n c) n xs) (hu : u = none) : n = 0 ∧ c = 0 := by
  subst hu
  rcases h.2 with ⟨e, _⟩ | ⟨g, cap, cur, e, _⟩
  · simp only [Value.slice.injEq, true_and] at e
    exact e
  · simp at e
theorem OwnD.is {w : World} {base g n gc : Nat} {L : List Nd} (h : OwnD w base (.slice (some ⟨g, 0, none⟩) n gc) L) (hn : n = L.length) : IsNds w (some ⟨g, 0, none⟩) n gc (gN L) := by
  subst hn
  obtain ⟨u, c, e, hI, _⟩ := h.nds
  simp only [Value.slice.injEq] at e
  rw [← e.1, ← e.2.2] at hI
  exact hI
section
variable {W w0 : World} {a : Option Addr} {len cap R : Nat} {Z : Nat → Int}
theorem MS.grownL {w w' : World} {v v' : Value} {T U : List (List UInt8)} (h : MS W w0 a len cap R v T w) (hO : w'.ownsRow w0.heap.size 9 1 v' (T.length + U.length) (T.map encStr ++ U.map encStr)) (hg : w.grownBy w' v.ownBlock) (hs : ∀ x ∈ U, x.length ≤ 64) : MS W w0 a len cap R v' (T ++ U) w' := by
  have h1 := h.lt
  have h2 := h.draw.new
  have h3 := h.draw.lt
  have h4 := h.mt0.size
  have hb : ∀ k, v.ownBlock = some k → w0.heap.size ≤ k := fun k hk => (World.ownsRow.lt h.own k hk).1
  obtain ⟨p, hp, hx⟩ := h.draw.box
  refine ⟨⟨h.draw.bel.grown hg h.draw.bel.size (fun k hk => by have := hb k hk; omega), h2, p, hp, (hg.block R h3 (fun e => by have := hb R e.symm; omega)).trans hx⟩, ⟨hg.os.trans h.mt0.os, hg.tape.trans h.mt0.tape, hg.output.trans h.mt0.output, Nat.le_trans h4 hg.size, fun k hk hr => (hg.block k (by omega) (fun e => by have := hb k e.symm; omega)).trans (h.mt0.block k hk hr)⟩, ?_, fun x hx => ?_, h1⟩
  · show w'.ownsRow _ 9 1 v' (T ++ U).length ((T ++ U).map encStr)
    rw [List.length_append, List.map_append]
    exact hO
  · rcases List.mem_append.1 hx with hx | hx
    · exact h.short x hx
    · exact hs x hx
theorem DS.keep {w w' : World} {g n gc : Nat} {L : List Nd} (h : DS W w0 a len cap R (.slice (some ⟨g, 0, none⟩) n gc) L w) (hM : Mut R w w') : OwnD w' w0.heap.size (.slice (some ⟨g, 0, none⟩) n gc) L := by
  have := h.lt
  exact h.own.keep (fun k hk hs => hM.block k hs (by omega))
theorem sum4_any (s : ByteArray) (w : World) (hs : s.size ≤ 4) : Calls Tryz.prog 110 #[.string s] w fun e w' => ∃ id : ByteArray, id.size ≤ 64 ∧ e = .returned (.string id) ∧ Below w.heap.size w w' := by
  refine (specSumText_any s (by omega) w).mono ?_
  rintro e w' ⟨rfl, hB⟩
  exact ⟨_, by rw [sumT_size]; exact Nat.le_refl _, rfl, hB⟩

set_option maxRecDepth 20000 in
set_option maxHeartbeats 16000000 in
theorem drawLacking_any (w : World) (hU : IsU8 w a len cap Z) :
    Calls Tryz.prog 43 #[.slice a len cap] w fun e w' => ∃ (g gc n : Nat) (D : Nat → Nd) (u : Option Addr) (m uc : Nat) (S : Nat → ByteArray), e = .returned (.tuple #[.slice (some ⟨g, 0, none⟩) n gc, .slice u m uc]) ∧ IsNds w' (some ⟨g, 0, none⟩) n gc D ∧ Fine D n ∧ n ≤ 30 ∧ IsStrs w' u m uc S ∧ m ≤ 9 ∧ (∀ j, j < m → (S j).size ≤ 64) ∧ Below w.heap.size w w' := by
  have HU := (show Hid _ from hU)
  obtain ⟨i0, hi, hz0, hz1, hz2⟩ := info_parts info9
  clear hU
  go_enter Tryz.func43, Tryz.ntmps43
  go_wp2_with fail
  refine (open_any a len cap w).mono ?_
  rintro e w1 ⟨rfl, hD1⟩
  have HD1 := (show Hid _ from hD1)
  clear hD1
  go_wp2_with fail
  refine (dag_any HU.out 5 (by omega) w1 HD1.out).mono ?_
  rintro e w2 ⟨g, gc, L, n, hn, rfl, hs2⟩
  have HN : Hid (n = L.length) := hn
  have HS2 : Hid (DS w w1 a len cap w.heap.size (.slice (some ⟨g, 0, none⟩) n gc) L w2) := hs2
  have HSome : Hid (∀ w', Draw w a len cap w.heap.size w' → Mut w.heap.size w2 w' → Calls Tryz.prog 109 #[.pointer (some ⟨w.heap.size, 0, none⟩), .slice (some ⟨g, 0, none⟩) n gc] w' fun e w'' => ∃ v T, e = .returned v ∧ T.length ≤ 4 ∧ MS w w' a len cap w.heap.size v T w'') := fun w' hD hM => by
    have hk := hs2.keep hM
    have h1 := hs2.mt0.size
    have h2 := hM.size
    subst hn
    exact some_any HU.out w1.heap.size g gc L w' hD hk hs2.lt (by omega) hs2.few
  clear hn hs2
  go_wp2_with fail
  refine (HSome.out _ HS2.out.draw (Mut.refl _ _)).mono ?_
  rintro e w3 ⟨v3, T3, rfl, hT3, hm3⟩
  have HM3 : Hid (MS w w2 a len cap w.heap.size v3 T3 w3) := hm3
  have HT3 : Hid (T3.length ≤ 4) := hT3
  have HR3 : Hid (w.heap.size < w3.heap.size) := hm3.draw.lt
  clear hm3 hT3
  go_wp2_with fail
  refine (below_any HU.out 3 (by omega) (by omega) _ (HM3.out.draw.alloc _)).mono ?_
  rintro e w4 ⟨y, hy0, hy1, rfl, hD4, hM4⟩
  have hc := lit_cells hM4 HR3.out
  have c0 := hc 0
  have c1 := hc 1
  have c2 := hc 2
  have HM4 : Hid (MS w w2 a len cap w.heap.size v3 T3 w4) := (HM3.out.below ((Below.refl _ _).alloc (Nat.le_refl _) _)).step hD4 hM4
  have HSum : Hid (∀ s : ByteArray, s.size ≤ 4 → Calls Tryz.prog 110 #[.string s] w4 fun e w' => ∃ id : ByteArray, id.size ≤ 64 ∧ e = .returned (.string id) ∧ Below w4.heap.size w4 w') := fun s hs => sum4_any s w4 hs
  have hc1 : (T3.length + 1 : Nat) ≤ maxLen := by have := HT3.out; unfold maxLen; omega
  have hc2 : (T3.length + 1) * 16 ≤ 140737488355328 := by have := HT3.out; omega
  have hy : y = 0 ∨ y = 1 ∨ y = 2 := by omega
  clear hc hD4 hM4 hy0 hy1 HM3
  rcases hy with rfl | rfl | rfl
  all_goals
    go_wp2_with fail
    refine (HSum.out _ (by decide)).mono ?_
    rintro e w5 ⟨id, hid, rfl, hB5⟩
    have HM5 : Hid (MS w w2 a len cap w.heap.size v3 T3 (w5.alloc (.cells #[.string id] 9))) := (HM4.out.below hB5).below ((Below.refl _ _).alloc (Nat.le_refl _) _)
    have HID : Hid (id.size ≤ 64) := hid
    have hso : ∀ x ∈ [Value.string id], x.oneCell' = true := by simp [Value.oneCell']
    clear hB5 hid c0 c1 c2 HM4
    go_wp2_with (at_builtin; refine wpList_append_own _ rfl _ _ 25 rfl w2.heap.size 9 i0 (.string ⟨#[]⟩) 1 16 Tryz.underlying25 hi hz0 hz1 hz2 rfl (by decide) _ _ _ rfl HM5.out.own ⟨w5.heap.size, 0, none⟩ 1 1 [.string id] rfl rfl (World.news_of_block (heap_alloc_new _ _)) hso hc1 hc2 HM5.out.mt0.size ?_; intro v6 w6 hown hgrow _)
    have HM6 : Hid (MS w w2 a len cap w.heap.size v6 (T3 ++ [id.toList]) w6) := HM5.out.grown hown hgrow HID.out
    clear hown hgrow hc1 hc2 hso
    refine (HSome.out w6 HM6.out.draw HM6.out.mt0).mono ?_
    rintro e w7 ⟨v7, T7, rfl, hT7, hm7⟩
    obtain ⟨u7, c7, rfl, hI7, _⟩ := hm7.own.strs
    have HM7 : Hid (MS w w2 a len cap w.heap.size v6 (T3 ++ [id.toList]) w7) := HM6.out.step hm7.draw hm7.mt0
    have HN7 : Hid (u7 = none → T7.length = 0 ∧ c7 = 0) := fun hu => own_nil hm7.own hu
    have HI7 := (show Hid _ from hI7)
    have HT7 : Hid (T7.length ≤ 4 ∧ ∀ x ∈ T7, x.length ≤ 64) := ⟨hT7, hm7.short⟩
    obtain ⟨m7, hm7l⟩ : ∃ m7, m7 = T7.length := ⟨_, rfl⟩
    rw [← hm7l] at HI7 HN7 ⊢
    have HML : Hid (m7 = T7.length) := hm7l
    clear hm7 hI7 hT7 hm7l HM6
    go_wp2_with (at_builtin; refine wpList_appS rfl _ _ rfl w2.heap.size v6 (T3 ++ [id.toList]).length ((T3 ++ [id.toList]).map encStr) u7 m7 c7 (atL T7) rfl rfl HM7.out.own HI7.out HN7.out (by have := HT3.out; have := HT7.out.1; have := HML.out; simp; omega) HM7.out.mt0.size ?_; intro v8 w8 ho8 hg8)
    have HM8 : MS w w2 a len cap w.heap.size v8 (T3 ++ [id.toList] ++ T7) w8 := HM7.out.grownL (by rw [← range_enc T7, ← HML.out]; exact ho8) hg8 HT7.out.2
    obtain ⟨u8, c8, rfl, hI8, _⟩ := HM8.own.strs
    go_ret2
    exact ⟨g, gc, n, gN L, u8, _, c8, atL (T3 ++ [id.toList] ++ T7), rfl, (HS2.out.keep HM8.mt0).is HN.out, by rw [HN.out]; exact HS2.out.few.fine, by rw [HN.out]; exact HS2.out.few.1, hI8, by have := HT3.out; have := HT7.out.1; simp; omega, fun j hj => by
      have hm : (atL (T3 ++ [id.toList] ++ T7) j).toList ∈ (T3 ++ [id.toList] ++ T7) := by rw [atL_list, List.getD_eq_getElem?_getD, List.getElem?_eq_getElem hj]; exact List.getElem_mem hj
      have := HM8.short _ hm
      rw [ByteArray.toList_eq] at this
      simpa using this, HM8.draw.bel⟩
end
end Go.Proofs.YtlibipbpaigmdaaGreatDoor

namespace Go.Proofs.YtlibipbpaigmdaaGreatDoor
open Go.RowKit
set_option linter.unusedVariables false

theorem lkIn_mem (I : Nat → ByteArray) (n : Nat) (S : Nat → ByteArray) (x : List UInt8) : ∀ k, x ∈ lkIn I n S k ↔ ∃ j, j < k ∧ outB I n (S j) = true ∧ x = (S j).toList
  | 0 => by simp [lkIn]
  | k + 1 => by
    have ih := lkIn_mem I n S x k
    cases h : outB I n (S k) with
    | true =>
      rw [lkIn_yes h, putL_mem, ih]
      constructor
      · rintro (⟨j, hj, h1, h2⟩ | rfl)
        · exact ⟨j, by omega, h1, h2⟩
        · exact ⟨k, by omega, h, rfl⟩
      · rintro ⟨j, hj, h1, h2⟩
        rcases Nat.lt_succ_iff_lt_or_eq.1 hj with h3 | rfl
        · exact .inl ⟨j, h3, h1, h2⟩
        · exact .inr h2
    | false =>
      rw [lkIn_no h, ih]
      constructor
      · rintro ⟨j, hj, h1, h2⟩
        exact ⟨j, by omega, h1, h2⟩
      · rintro ⟨j, hj, h1, h2⟩
        rcases Nat.lt_succ_iff_lt_or_eq.1 hj with h3 | rfl
        · exact ⟨j, h3, h1, h2⟩
        · rw [h] at h1; cases h1
theorem outB_same {I : Nat → ByteArray} {n : Nat} {s t : ByteArray} (h : s.toList = t.toList) : outB I n s = outB I n t := by unfold outB; rw [h]
theorem lk_has {I : Nat → ByteArray} {n : Nat} {S : Nat → ByteArray} {m k : Nat} (hk : k < m) : outB (atL (lkIn I n S m)) (lkIn I n S m).length (S k) = !(outB I n (S k)) := by
  cases h : outB I n (S k) with
  | true =>
    rw [(out_mem _ _).2 ((lkIn_mem I n S _ m).2 ⟨k, hk, h, rfl⟩)]
    rfl
  | false =>
    have hn : ¬ (S k).toList ∈ lkIn I n S m := fun hm => by
      obtain ⟨j, _, h1, h2⟩ := (lkIn_mem I n S _ m).1 hm
      rw [← outB_same h2, h] at h1
      cases h1
    cases h2 : outB (atL (lkIn I n S m)) (lkIn I n S m).length (S k) with
    | true => rfl
    | false => exact absurd ((out_mem _ _).1 h2) hn
theorem lk_within (I : Nat → ByteArray) (n : Nat) (S : Nat → ByteArray) (m : Nat) : hasB S m (atL (lkIn I n S m)) (lkIn I n S m).length = true := by
  unfold hasB
  refine allB_true fun i hi => ?_
  have hm : (atL (lkIn I n S m) i).toList ∈ lkIn I n S m := by
    rw [atL_list, List.getD_eq_getElem?_getD, List.getElem?_eq_getElem hi]
    exact List.getElem_mem hi
  obtain ⟨j, hj, _, h2⟩ := (lkIn_mem I n S _ m).1 hm
  rw [(outB_iff S _ m).2 ⟨j, hj, h2.symm⟩]
  rfl
theorem sameB_refl (S : Nat → ByteArray) (n : Nat) : sameB S S n = true := by
  unfold sameB
  exact allB_true fun i _ => by simp
theorem sameL_any (a : Option Addr) (cap : Nat) (b : Option Addr) (bc : Nat) (n : Nat) (K : List (List UInt8)) (w : World) (h : IsStrs w a n cap (atL K)) (hi : IsStrs w b n bc (atL K)) :
    Calls Tryz.prog 36 #[.slice a n cap, .slice b n bc] w fun e w' => e = .returned (.bool true) ∧ Below w.heap.size w w' := by
  refine (lawSame_any a n cap (atL K) b n bc (atL K) w h hi).mono ?_
  rintro e w' ⟨rfl, hB⟩
  rw [sameB_refl]
  exact ⟨by simp, hB⟩

set_option maxHeartbeats 4000000 in
theorem fnLacking_walk {a : Option Addr} {len cap : Nat} {Z : Nat → Int} (W : World) (hU : IsU8 W a len cap Z) (hP : AllT W) :
    Calls Tryz.prog 7 #[.slice a len cap] W fun e w' => e = .returned (.bool true) ∧ Below W.heap.size W w' := by
  have HU := (show Hid _ from hU)
  have HP := (show Hid _ from hP)
  clear hU hP
  obtain ⟨big, hbig⟩ : ∃ b, b = decide ((1048576 : Int) < (len : Int)) := ⟨_, rfl⟩
  have HBig : Hid (Calls Tryz.prog 34 #[.slice a len cap] W fun e w' => e = .returned (.bool big) ∧ w' = W) := by rw [hbig]; exact big_any a len cap W
  clear hbig
  go_enter Tryz.func7, Tryz.ntmps7
  go_wp2_with fail
  refine HBig.out.mono ?_
  rintro e w0 ⟨rfl, hw0⟩
  rw [hw0]
  clear hw0 w0 HBig
  cases big with
  | true =>
    go_wp2
    go_ret
    exact ⟨rfl, Below.refl _ _⟩
  | false =>
  go_wp2_with fail
  refine (drawLacking_any W HU.out).mono ?_
  rintro e w1 ⟨g, gc, n, D, u, m, uc, S, rfl, hI, hF, hn, hS, hm, hs, b1⟩
  have HI : Hid (IsNds w1 (some ⟨g, 0, none⟩) n gc D) := hI
  have HF : Hid (Fine D n) := hF
  have HS : Hid (IsStrs w1 u m uc S) := hS
  have HB1 := (show Hid _ from b1)
  have HM : Hid (m ≤ 9 ∧ n ≤ 30) := ⟨hm, hn⟩
  obtain ⟨K, hK⟩ : ∃ K, K = lkR D n S m := ⟨_, rfl⟩
  have HIm : Hid (Calls Tryz.prog 44 #[.slice (some ⟨g, 0, none⟩) n gc, .slice u m uc] w1 fun e w' => ∃ v, e = .returned v ∧ OwnL w' w1.heap.size v K ∧ Below w1.heap.size w1 w') := by
    rw [hK]
    exact implLacking_any _ n gc D u m uc S w1 hI hF hS (fun j hj => Nat.le_trans (hs j hj) (by decide)) (HP.out.below b1)
  have HSp : Hid (∀ w', Below w1.heap.size w1 w' → Calls Tryz.prog 45 #[.slice (some ⟨g, 0, none⟩) n gc, .slice u m uc] w' fun e w'' => ∃ v, e = .returned v ∧ OwnL w'' w'.heap.size v K ∧ Below w'.heap.size w' w'') := fun w' hB => by
    rw [hK]
    exact specLacking_any _ n gc D u m uc S w' (hI.below hB) hF (hS.below hB)
  have HK := (show Hid _ from hK)
  have hgc1 := hI.1
  have hgc2 := hI.2.1
  have huc1 := hS.1
  have huc2 := hS.2.1
  clear hI hF hS b1 hn hs hK hm
  go_wp2_with fail
  refine HIm.out.mono ?_
  rintro e w2 ⟨v2, rfl, o2, hB2⟩
  obtain ⟨a2, c2, rfl, i2, _⟩ := o2.strs
  obtain ⟨kl, hkl⟩ : ∃ kl, kl = K.length := ⟨_, rfl⟩
  rw [← hkl] at i2 ⊢
  have HI2 : Hid (IsStrs w2 a2 kl c2 (atL K)) := i2
  have HB2 := (show Hid _ from hB2)
  have HKL : Hid (kl = K.length) := hkl
  clear o2 i2 hB2 HIm hkl
  go_wp2_with fail
  refine (HSp.out w2 HB2.out).mono ?_
  rintro e w3 ⟨v3, rfl, o3, hB3⟩
  obtain ⟨a3, c3, rfl, i3, _⟩ := o3.strs
  rw [← HKL.out] at i3 ⊢
  have HI3 : Hid (IsStrs w3 a3 kl c3 (atL K)) := i3
  have HB3 := (show Hid _ from HB2.out.trans (hB3.mono HB2.out.size))
  have HI23 : Hid (IsStrs w3 a2 kl c2 (atL K)) := HI2.out.below hB3
  clear o3 i3 hB3
  go_wp2_with fail
  refine (sameL_any _ _ _ _ kl K w3 HI23.out HI3.out).mono ?_
  rintro e w4 ⟨rfl, hB4⟩
  have HB4 := (show Hid _ from HB3.out.trans (hB4.mono HB3.out.size))
  have HI4 : Hid (IsStrs w4 a2 kl c2 (atL K)) := HI23.out.below hB4
  have HD4 : Hid (Calls Tryz.prog 46 #[.slice (some ⟨g, 0, none⟩) n gc] w4 fun e w' => e = .returned (.bool (dagB D n)) ∧ Below w4.heap.size w4 w') := specDagOk_any _ n gc D w4 (HI.out.below HB4.out) HF.out
  clear hB4
  go_wp2_with fail
  refine HD4.out.mono ?_
  rintro e w5 ⟨rfl, hB5⟩
  have HB5 := (show Hid _ from HB4.out.trans (hB5.mono HB4.out.size))
  have HI5 : Hid (IsStrs w5 a2 kl c2 (atL K)) := HI4.out.below hB5
  clear hB5 HD4
  have hm30 : ¬ (30 : Int) < (m : Int) := by have := HM.out.1; omega
  cases hq : dagB D n with
  | false =>
    go_wp2_with fail
    refine (HSp.out w5 HB5.out).mono ?_
    rintro e w6 ⟨v6, rfl, o6, hB6⟩
    obtain ⟨a6, c6, rfl, i6, _⟩ := o6.strs
    rw [← HKL.out] at i6 ⊢
    have HI6 : Hid (IsStrs w6 a6 kl c6 (atL K)) := i6
    have HI56 : Hid (IsStrs w6 a2 kl c2 (atL K)) := HI5.out.below hB6
    have HB6 := (show Hid _ from HB5.out.trans (hB6.mono HB5.out.size))
    clear o6 i6 hB6
    go_wp2_with fail
    refine (sameL_any _ _ _ _ kl K w6 HI56.out HI6.out).mono ?_
    rintro e w7 ⟨rfl, hB7⟩
    go_wp2
    go_ret
    exact ⟨rfl, HB1.out.trans ((HB6.out.trans (hB7.mono HB6.out.size)).mono HB1.out.size)⟩
  | true =>
    have HKI : Hid (K = lkIn (ids D) n S m) := by
      show _ = _
      rw [HK.out]
      unfold lkR
      rw [if_pos (by rw [hq]; have := HM.out.1; simp; omega)]
    clear hq
    go_wp2_with fail
    refine (lawIds_any _ n gc D w5 (HI.out.below HB5.out) HF.out (by have := HM.out.2; omega)).mono ?_
    rintro e w6 ⟨ga, ac, rfl, ia, hB6⟩
    have HIA : Hid (IsStrs w6 ga n ac (ids D)) := ia
    have HI6 : Hid (IsStrs w6 a2 kl c2 (atL K)) := HI5.out.below hB6
    have HB6 := (show Hid _ from HB5.out.trans (hB6.mono HB5.out.size))
    have HS6 : Hid (IsStrs w6 u m uc S) := HS.out.below HB6.out
    clear ia hB6
    go_wp2
    go_loopw [7] (fun i wr => ∃ (k : Nat), k ≤ m ∧ i = .int .i64 k ∧ Hid (Below w6.heap.size w6 wr)) (fun i _ => m - (Go.RowKit.intOf i).toNat)
    case atStart => exact ⟨0, Nat.zero_le _, rfl, Below.refl _ _⟩
    case round =>
      obtain ⟨k, hk, rfl, HB⟩ := hrel
      by_cases hlt : k < m
      · have hltI : (k : Int) < (m : Int) := by omega
        obtain ⟨ub, uo, hu, _, hucell⟩ := (HS6.out.below HB.out).2.2 (by omega)
        have q1 : ∀ s : Later wr, s.val.cell? ⟨ub, uo + k, none⟩ = some (.string (S k)) := fun s => s.cell (hucell k hlt)
        have hne := Later.any wr
        obtain ⟨c, hc⟩ : ∃ c, c = outB (ids D) n (S k) := ⟨_, rfl⟩
        have HH1 : Hid (∀ s : Later wr, Calls Tryz.prog 38 #[.slice a2 kl c2, .string (S k)] s.val fun e w' => e = .returned (.bool c) ∧ Below s.val.heap.size s.val w') := fun s => by
          refine (lawHas_any a2 kl c2 (atL K) (S k) s.val ((HI6.out.below HB.out).below s.ok)).mono ?_
          rintro e w' ⟨rfl, rfl⟩
          refine ⟨?_, Below.refl _ _⟩
          rw [HKL.out, HKI.out, lk_has hlt, hc]
          simp
        have HH2 : Hid (∀ s : Later wr, Calls Tryz.prog 38 #[.slice ga n ac, .string (S k)] s.val fun e w' => e = .returned (.bool (!c)) ∧ Below s.val.heap.size s.val w') := fun s => by
          refine (lawHas_any ga n ac (ids D) (S k) s.val ((HIA.out.below HB.out).below s.ok)).mono ?_
          rintro e w' ⟨rfl, rfl⟩
          exact ⟨by rw [hc], Below.refl _ _⟩
        subst hu
        clear hucell hc
        cases c with
        | true =>
          go_wp2
          refine wp_region_later (by kernel_rfl) (by kernel_rfl) ?_
          repeat (go_big_quiet_step ((rename_i s; first | with_reducible exact Calls.later (HH1.out s) | with_reducible exact Calls.later (HH2.out s))))
          refine wpQuiet_nil ?_
          rintro _ ⟨⟨w', hB2⟩, rfl⟩
          have HB3 := (show Hid _ from HB.out.trans (hB2.mono HB.out.size))
          clear hB2
          go_wp2
          go_roundw
          case rel => exact ⟨k + 1, by omega, by go_num, HB3⟩
          case measure => simp [Go.RowKit.intOf]; omega
        | false =>
          go_wp2
          refine wp_region_later (by kernel_rfl) (by kernel_rfl) ?_
          repeat (go_big_quiet_step ((rename_i s; first | with_reducible exact Calls.later (HH1.out s) | with_reducible exact Calls.later (HH2.out s))))
          refine wpQuiet_nil ?_
          rintro _ ⟨⟨w', hB2⟩, rfl⟩
          have HB3 := (show Hid _ from HB.out.trans (hB2.mono HB.out.size))
          clear hB2
          go_wp2
          go_roundw
          case rel => exact ⟨k + 1, by omega, by go_num, HB3⟩
          case measure => simp [Go.RowKit.intOf]; omega
      · have hke : k = m := by omega
        subst hke
        have HW : Hid (Calls Tryz.prog 39 #[.slice a2 kl c2, .slice u k uc] wr fun e w' => e = .returned (.bool true) ∧ w' = wr) := by
          have := lawWithin_any a2 kl c2 (atL K) u k uc S wr (HI6.out.below HB.out) (HS6.out.below HB.out)
          rw [HKL.out, HKI.out, lk_within] at this
          rw [HKL.out, HKI.out]
          exact this
        go_wp2_with fail
        refine HW.out.mono ?_
        rintro e w9 ⟨rfl, hw9⟩
        rw [hw9]
        clear hw9 w9
        go_wp2
        go_ret
        exact ⟨rfl, HB1.out.trans ((HB6.out.trans (HB.out.mono HB6.out.size)).mono HB1.out.size)⟩
end Go.Proofs.YtlibipbpaigmdaaGreatDoor

namespace Go.Proofs.YtlibipbpaigmdaaGreatDoor
open Go.ChangeShapes Go.WideShapes Go.ChangeAt Go.RowKit Go.Deep
set_option linter.unusedVariables false



theorem cellsU8 : Tryz.prog.cellsOf 5 = 1 := by kernel_rfl

/-- a slice of bytes that came in reads as bytes -/
theorem open_u8 {H : Type} {enc : TypeId × Value → H} {W : World} {n : Nat} {v : Value} {x : DataW H × List MemPlace} (h : DataW.trod enc Tryz.prog W 0 (fun _ => true) true n 44 [v] = some x) :
    ∃ a len cap Z, v = .slice a len cap ∧ IsU8 W a len cap Z := by
  rcases open_ints Tryz.underlying44 Tryz.underlying5 cellsU8 h with ⟨hcs, _⟩ | ⟨a, l, c, zs, hcs, _, hl, hm, hz, _, hcell, hwz⟩
  · simp at hcs
    exact ⟨none, 0, 0, fun _ => 0, hcs, Nat.le_refl _, by omega, fun _ => by simp, fun h => absurd h (by omega)⟩
  · simp at hcs
    have hrg : ∀ i, 0 ≤ zs.getD i 0 ∧ zs.getD i 0 ≤ 255 := by
      intro i
      by_cases hi : i < zs.length
      · have hw := hwz (zs.getD i 0) (by simp [List.getD, List.getElem?_eq_getElem hi])
        simpa [Lit.wf, IntKind.min, IntKind.max, IntKind.signed, IntKind.bits] using hw
      · rw [List.getD, List.getElem?_eq_none (by omega)]
        simp
    refine ⟨some a, l, c, fun i => zs.getD i 0, hcs, hl, by unfold maxLen at hm; omega, hrg, fun hp => ?_⟩
    obtain ⟨b, off, spot⟩ := a
    have hc0 := hcell 0 (by simp at hz; omega)
    have hspot : spot = none := by simpa [Addr.add] using World.cell?_spot hc0
    subst hspot
    refine ⟨b, off, rfl, ?_, fun i hi => ?_⟩
    · rcases Nat.lt_or_ge b W.heap.size with h' | h'
      · exact h'
      · simp [Addr.add, World.cell?, Array.getElem?_eq_none h'] at hc0
    · have := hcell i (by simp at hz; omega)
      rw [add_plain] at this
      exact this

end Go.Proofs.YtlibipbpaigmdaaGreatDoor
