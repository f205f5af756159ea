/-
  The specification's SeqIds, whole. No condition but that the slice reads.
-/
import Derived.Test.YtjfciokpnhnhbaaSqX
namespace Go.Proofs.Ytjfciokpnhnhbaa
open Go.RowKit
set_option linter.unusedVariables false

theorem shown_snoc (D : Nat → Ev) (n : Nat) (A : List Int) {k : Nat} (h : k < A.length) : shownL D n (A.take (k + 1)) = shownL D n (A.take k) ++ (if delB D n (A.getD k 0) then [] else [A.getD k 0]) := by
  rw [take_snocI A h, shownL_append, shownL_cons]
  show _ ++ (_ ++ shownL D n []) = _
  simp [shownL]

set_option maxRecDepth 10000 in
set_option maxHeartbeats 4000000 in
theorem l10Ids_any (a : Option Addr) (len cap : Nat) (D : Nat → Ev) (w : World) (h : IsEvs w a len cap D) (hs : seqB D len = true) :
    Calls Try.prog 47 #[.slice a len cap] w fun e w' => ∃ v, e = .returned v ∧ OwnI w' w.heap.size v (idsL D len) ∧ Below w.heap.size w w' := by
  obtain ⟨i0, hi, hz0, hz1, hz2⟩ := info_parts infoI6
  have HE : Hid (∀ w', Below w.heap.size w w' → IsEvs w' a len cap D) := fun w' hB => h.below hB
  have HSP := (show Hid _ from seqB_parts hs)
  have HE0 := (show Hid _ from h)
  clear h hs
  go_enter Try.func47, Try.ntmps47
  go_wp2_with fail
  refine (walk10_any HE0.out HSP.out.2 HSP.out.1 0 (.slice none 0 0) [] w (Below.refl _ _) (OwnI.nil0 _ _) (by simp)).mono ?_
  rintro e w1 ⟨v, rfl, hO1, hB1⟩
  rw [List.nil_append] at hO1
  obtain ⟨A, hA⟩ : ∃ A, A = ord D len 0 := ⟨_, rfl⟩
  rw [← hA] at hO1
  have HA : Hid (A = ord D len 0 ∧ A.length ≤ 40) := ⟨hA, by rw [hA]; exact Nat.le_trans (ord_len HSP.out.2 0) HSP.out.1⟩
  have HB1 : Hid (Below w.heap.size w w1) := hB1
  have hrd := hO1.rd
  obtain ⟨va, vc, rfl, hlc, hcm, hcc⟩ := hrd
  obtain ⟨m, hm⟩ : ∃ m, m = A.length := ⟨_, rfl⟩
  rw [← hm] at hlc hcc ⊢
  have HM : Hid (m = A.length) := hm
  have hm40 : m ≤ 40 := by have := HA.out.2; omega
  obtain ⟨X, hX⟩ : ∃ X, X = w1.alloc (.cells #[] 2) := ⟨_, rfl⟩
  have HX := (show Hid _ from hX)
  have hBX : Below w1.heap.size w1 X := by rw [hX]; exact (Below.refl _ _).alloc (Nat.le_refl _) _
  have HBX : Hid (Below w1.heap.size w1 X) := hBX
  have HOX : Hid (OwnI X w1.heap.size (.slice (some ⟨w1.heap.size, 0, none⟩) 0 0) []) := by
    rw [hX]
    exact ⟨rfl, .inr ⟨w1.heap.size, 0, #[], rfl, Nat.le_refl _, heap_alloc_new _ _, Nat.le_refl _, Nat.zero_le _, rfl, rfl⟩⟩
  clear hO1 hB1 hA hm hX hBX
  go_wp2
  rw [← HX.out]
  go_loopw [4, 5] (fun u i wr => ∃ (k : Nat) (uv : Value), k ≤ m ∧ i = .int .i64 k ∧ uv = u ∧ Hid (OwnI wr w1.heap.size uv (shownL D len (A.take k)) ∧ Below w1.heap.size w1 wr)) (fun _ i _ => m - (Go.RowKit.intOf i).toNat)
  case atStart => exact ⟨0, _, Nat.zero_le _, rfl, rfl, HOX.out, HBX.out⟩
  case round =>
    obtain ⟨k, uv, hk, rfl, rfl, HI⟩ := hrel
    by_cases hlt : k < m
    · have hltI : (k : Int) < (m : Int) := by omega
      obtain ⟨b, off, rfl, hb, hc⟩ := hcc (by omega)
      obtain ⟨y, hy⟩ : ∃ y, y = A.getD k 0 := ⟨_, rfl⟩
      have c1 := hc k hlt
      rw [← hy] at c1
      have d1 : wr.cell? ⟨b, off + k, none⟩ = some (.int .i64 y) := (HI.out.2.cell (p := ⟨b, off + k, none⟩) hb).trans c1
      have HWR : Hid (Below w.heap.size w wr) := HB1.out.trans (HI.out.2.mono HB1.out.size)
      have hsn := shown_snoc D len A (k := k) (by have := HM.out; omega)
      rw [← hy] at hsn
      have HSN := (show Hid _ from hsn)
      clear c1 hc hy hsn
      obtain ⟨ua, uc, eu⟩ := HI.out.1.slice
      obtain ⟨q, hq⟩ : ∃ q, q = (shownL D len (A.take k)).length := ⟨_, rfl⟩
      rw [← hq] at eu
      subst eu
      have HQ : Hid (q = (shownL D len (A.take k)).length ∧ q ≤ 40) := ⟨hq, by
        rw [hq]
        have h1 : (shownL D len (A.take k)).length ≤ (A.take k).length := List.length_filter_le _ _
        have h2 : (A.take k).length ≤ k := by rw [List.length_take]; omega
        omega⟩
      clear hq
      go_wp2_with fail
      refine (gone_any a len cap D y wr (HE.out wr HWR.out)).mono ?_
      rintro e w' ⟨rfl, hw⟩
      rw [hw]
      clear hw w'
      cases hd : delB D len y with
      | true =>
        have HR : Hid (shownL D len (A.take (k + 1)) = shownL D len (A.take k)) := by show _ = _; rw [HSN.out, hd]; simp
        clear hd
        go_wp2
        go_roundw
        case rel => exact ⟨k + 1, _, by omega, by go_num, rfl, by rw [HR.out]; exact HI.out.1, HI.out.2⟩
        case measure => simp [Go.RowKit.intOf]; omega
      | false =>
        have HR : Hid (shownL D len (A.take (k + 1)) = shownL D len (A.take k) ++ [y]) := by show _ = _; rw [HSN.out, hd]; simp
        have hBo : Below wr.heap.size wr (wr.alloc (.cells #[.int .i64 y] 2)) := (Below.refl _ _).alloc (Nat.le_refl _) _
        have HOW : Hid ((wr.alloc (.cells #[.int .i64 y] 2)).ownsRow w1.heap.size 2 1 (.slice ua q uc) q ((shownL D len (A.take k)).map (.int .i64 ·))) := by
          have := HI.out.1.below hBo
          unfold OwnI at this
          rw [← HQ.out.1] at this
          exact this
        have HNW : Hid (∀ j v, ([Value.int .i64 y] : List Value)[j]? = some v → (wr.alloc (.cells #[.int .i64 y] 2)).cell? ((⟨wr.heap.size, 0, none⟩ : Addr).add j) = some v) := by
          show ∀ j v, _
          have := World.news_of_block (heap_alloc_new wr (.cells #[.int .i64 y] 2))
          simpa using this
        have HMX9 : Hid (q + 1 ≤ maxLen ∧ (q + 1) * 8 ≤ 140737488355328 ∧ w1.heap.size ≤ (wr.alloc (.cells #[.int .i64 y] 2)).heap.size) := ⟨by unfold maxLen; have := HQ.out; omega, by have := HQ.out; omega, by have := HI.out.2.size; simp; omega⟩
        have HFIN : Hid (∀ v7 w7, w7.ownsRow w1.heap.size 2 1 v7 (q + 1) ((shownL D len (A.take k)).map (.int .i64 ·) ++ [.int .i64 y]) → (wr.alloc (.cells #[.int .i64 y] 2)).grownBy w7 (Value.slice ua q uc).ownBlock → OwnI w7 w1.heap.size v7 (shownL D len (A.take (k + 1))) ∧ Below w1.heap.size w1 w7) := fun v7 w7 hown hgrow => by
          refine ⟨?_, ?_⟩
          · rw [HR.out]
            unfold OwnI
            rw [List.map_append, List.length_append, ← HQ.out.1]
            exact hown
          · have hb := HI.out.2.alloc HI.out.2.size (.cells #[.int .i64 y] 2)
            exact hb.grown hgrow hb.size (fun x hx => (World.ownsRow.lt HI.out.1 x hx).1)
        clear hBo hd
        go_wp2_with (
          at_builtin
          refine wpList_append_own _ rfl _ _ 37 rfl w1.heap.size 2 i0 (.int .i64 0) 1 8 Try.underlying37 hi hz0 hz1 hz2 rfl (by decide) (.slice ua q uc) q _ rfl HOW.out ⟨wr.heap.size, 0, none⟩ 1 1 [.int .i64 y] rfl rfl HNW.out (by simp [Value.oneCell']) HMX9.out.1 HMX9.out.2.1 HMX9.out.2.2 ?_
          intro v7 w7 hown7 hgrow7 hnil7
          have HF7 := (show Hid _ from HFIN.out v7 w7 hown7 hgrow7)
          clear hown7 hgrow7 hnil7)
        exact ⟨⟨k + 1, _, by omega, by simp, rfl, HF7.out.1, HF7.out.2⟩, by simp [Go.RowKit.intOf]; omega⟩
    · have hltI : ¬ (k : Int) < (m : Int) := by omega
      have hkm : k = m := by omega
      subst hkm
      have HEND : Hid (OwnI wr w.heap.size uv (idsL D len) ∧ Below w.heap.size w wr) := by
        have e : shownL D len (A.take k) = idsL D len := by rw [HM.out, List.take_length, HA.out.1]; rfl
        have := HI.out.1
        rw [e] at this
        exact ⟨this.base0 HB1.out.size, HB1.out.trans (HI.out.2.mono HB1.out.size)⟩
      clear HI
      go_wp2
      go_ret
      exact ⟨_, rfl, HEND.out.1, HEND.out.2⟩
end Go.Proofs.Ytjfciokpnhnhbaa
