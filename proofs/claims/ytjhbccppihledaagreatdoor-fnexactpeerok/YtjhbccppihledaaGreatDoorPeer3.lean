/-
  The program's test of a peer: what stockOf gathers. No condition but that the peer's slices read and the tables lie.
-/
import Derived.Test.YtjhbccppihledaaGreatDoorPeer2
namespace Go.Proofs.YtjhbccppihledaaGreatDoor
open Go.RowKit Go.Maps
set_option linter.unusedVariables false

theorem allB_yes {p : Nat → Bool} {n i : Nat} (h : allB p n = true) (hi : i < n) : p i = true := by
  cases hq : p i with
  | true => rfl
  | false => rw [allB_false hi hq] at h; cases h

theorem ret_t {a b : Value} {x y : Bool} (h : a = b) (h' : x = y) : Ending.returned (.tuple #[a, .bool x]) = .returned (.tuple #[b, .bool y]) := by rw [h, h']

set_option maxHeartbeats 4000000 in
theorem stockOf_any (a : Option Addr) (n cap : Nat) (D : Nat → Nd) (b : Option Addr) (m mcap : Nat) (E : Nat → Nd) (w : World) (h : IsNds w a n cap D) (hf : Fine D n) (h' : IsNds w b m mcap E) (hf' : Fine E m) (hP : AllT w) :
    Calls Tryz.prog 63 #[.agg #[.slice a n cap, .slice b m mcap]] w fun e w' => ∃ v, e = .returned (.tuple #[v, .bool (peerB D n E m)]) ∧ Below w.heap.size w w' := by
  obtain ⟨W0, hW0⟩ : ∃ W0, W0 = w.alloc (.cells #[.slice a n cap, .slice b m mcap] 42) := ⟨_, rfl⟩
  have hB0 : Below w.heap.size w W0 := by rw [hW0]; exact (Below.refl _ _).alloc (Nat.le_refl _) _
  have hg0 : W0.heap[w.heap.size]? = some (.cells #[.slice a n cap, .slice b m mcap] 42) := by rw [hW0]; exact heap_alloc_new w _
  have HW : Hid (W0 = w.alloc (.cells #[.slice a n cap, .slice b m mcap] 42)) := hW0
  have HN : Hid (IsNds W0 a n cap D) := h.below hB0
  have HN' : Hid (IsNds w b m mcap E) := h'
  have HF : Hid (Fine D n) := hf
  have HF' : Hid (Fine E m) := hf'
  have HPT : Hid (AllT w) := hP
  have HB0 : Hid (Below w.heap.size w W0) := hB0
  have HG0 : Hid (W0.heap[w.heap.size]? = some (.cells #[.slice a n cap, .slice b m mcap] 42)) := hg0
  clear hW0 h hf h' hf' hB0 hg0 hP
  cases hd : dagB D n with
  | false =>
    have hr : Hid (peerB D n E m = false) := by
      show _ = _
      unfold peerB
      rw [hd]; rfl
    go_enter Tryz.func63, Tryz.ntmps63
    go_wp2_with (first
      | (go_at_call 45; rw [← HW.out]; refine (dagOf_any a n cap D W0 HN.out HF.out (HPT.out.below HB0.out)).mono ?_; rintro e w1 ⟨v1, rfl, _, hB1⟩; rw [hd]; have hx1 : w1.cell? ⟨w.heap.size, 1, none⟩ = some (.slice b m mcap) := cellN ((hB1.block _ (lt_of_block HG0.out)).trans HG0.out); have HB1 : Hid (Below w.heap.size w w1) := HB0.out.trans (hB1.mono HB0.out.size); clear hB1)
      | (go_at_call 73; refine (nodesById_any b m mcap E w1 (HN'.out.below HB1.out) HF'.out (HPT.out.below HB1.out)).mono ?_; rintro e w2 ⟨v2, rfl, _, hB2⟩))
    go_ret2
    exact ⟨.pointer none, ret_t rfl hr.out.symm, HB1.out.trans (hB2.mono HB1.out.size)⟩
  | true =>
  cases hby : byB E m with
  | false =>
    have hr : Hid (peerB D n E m = false) := by
      show _ = _
      unfold peerB
      rw [hby]; simp
    go_enter Tryz.func63, Tryz.ntmps63
    go_wp2_with (first
      | (go_at_call 45; rw [← HW.out]; refine (dagOf_any a n cap D W0 HN.out HF.out (HPT.out.below HB0.out)).mono ?_; rintro e w1 ⟨v1, rfl, _, hB1⟩; rw [hd]; have hx1 : w1.cell? ⟨w.heap.size, 1, none⟩ = some (.slice b m mcap) := cellN ((hB1.block _ (lt_of_block HG0.out)).trans HG0.out); have HB1 : Hid (Below w.heap.size w w1) := HB0.out.trans (hB1.mono HB0.out.size); clear hB1)
      | (go_at_call 73; refine (nodesById_any b m mcap E w1 (HN'.out.below HB1.out) HF'.out (HPT.out.below HB1.out)).mono ?_; rintro e w2 ⟨v2, rfl, _, hB2⟩; rw [hby]))
    go_ret2
    exact ⟨.pointer none, ret_t rfl hr.out.symm, HB1.out.trans (hB2.mono HB1.out.size)⟩
  | true =>
  go_enter Tryz.func63, Tryz.ntmps63
  go_wp2_with (first
    | (go_at_call 45; rw [← HW.out]; refine (dagOf_any a n cap D W0 HN.out HF.out (HPT.out.below HB0.out)).mono ?_; rintro e w1 ⟨v1, rfl, hv1, hB1⟩; rw [hd]; obtain ⟨Bd, db, doff, rfl, hBd, _, hown1⟩ := hv1 hd; have hx1 : w1.cell? ⟨w.heap.size, 1, none⟩ = some (.slice b m mcap) := cellN ((hB1.block _ (lt_of_block HG0.out)).trans HG0.out); have HB1 : Hid (Below w.heap.size w w1) := HB0.out.trans (hB1.mono HB0.out.size); have HO1 : Hid (w1.ownsMap Tryz.prog 9 PR Bd n (mapD D db doff n)) := hown1; clear hB1 hv1 hBd hown1)
    | (go_at_call 73; refine (nodesById_any b m mcap E w1 (HN'.out.below HB1.out) HF'.out (HPT.out.below HB1.out)).mono ?_; rintro e wL ⟨v2, rfl, hv2, hB2⟩; rw [hby]; obtain ⟨B, eb, eoff, rfl, hBB, hab, hown⟩ := hv2 hby)
    | (at_range; refine wpList_range_own _ rfl _ 61 rfl 9 66 lawS Tryz.underlying61 PR B m (mapD E eb eoff m) rfl hown ?_; intro w0 hrg0 hg0 hs0))
  have HBB : Hid (w1.heap.size ≤ B) := hBB
  have HBL1 : Hid (Below w1.heap.size w1 wL) := hB2
  have HBL : Hid (Below w.heap.size w wL) := HB1.out.trans (hB2.mono HB1.out.size)
  have HR0 : Hid (m ≤ 30 ∧ allB (fun i => (E i).ok) m = true ∧ riseB (ids E) m = true) := byB_parts hby
  have HE : Hid (∀ i, i < m → NdAt w eb (eoff + i * 6) (E i)) := fun i hi => by
    obtain ⟨b', off', e, hbs, hcell⟩ := HN'.out.2.2 (by omega)
    have e2 := hab (by omega)
    rw [e2] at e
    simp only [Option.some.injEq, Addr.mk.injEq, and_true] at e
    obtain ⟨rfl, rfl⟩ := e
    exact hcell i hi
  have HOL : Hid (wL.ownsMap Tryz.prog 9 PR Bd n (mapD D db doff n)) := ownsMap_below HO1.out hB2
  have HBY : Hid (byB E m = true) := hby
  have HD : Hid (dagB D n = true) := hd
  have HLd : Hid (Bd < w1.heap.size) := HO1.out.lt
  clear hBB hB2 hab hby hd hv2 hx1
  go_frame
  go_loopw [8, 9] (fun _ _ wr => ∃ (left : Lit → Bool) (cnt : Nat), wr.ranges Tryz.prog 9 PR B wL.heap.size m (mapD E eb eoff m) left cnt ∧ Hid (∀ i, i < m → left (keyL (ids E i)) = false → waitsB D n (E i) = true) ∧ Below w.heap.size w wr ∧ wr.ownsMap Tryz.prog 9 PR Bd n (mapD D db doff n))
    (fun _ _ wr => wr.rangeLeft B wL.heap.size)
  case atStart =>
    refine ⟨_, _, hrg0, (fun i hi h => by rw [mapD_has E eb eoff m i hi] at h; cases h), HBL.out.grown hg0 HBL.out.size (fun j hj => by cases hj), ?_⟩
    have hgb : Below wL.heap.size wL w0 := (Below.refl _ _).grown hg0 (Nat.le_refl _) (fun j hj => by cases hj)
    exact ownsMap_below HOL.out hgb
  case round =>
    obtain ⟨left, cnt, hrg, HS, hB, hod⟩ := hrel
    have HG : Hid (wr.ranges Tryz.prog 9 PR B wL.heap.size m (mapD E eb eoff m) left cnt) := hrg
    have HOD : Hid (wr.ownsMap Tryz.prog 9 PR Bd n (mapD D db doff n)) := hod
    clear hod
    go_wp2_with (first
      | (at_next; refine wpList_next_ranges _ rfl _ rfl 9 lawS PR Value.string Value.pointer keyS_inv PR_inv B wL.heap.size m _ _ _ rfl hrg ?_ ?_))
    · intro _ hl0
      have hr : Hid (peerB D n E m = true) := by
        show _ = _
        have hu : allB (fun i => waitsB D n (E i)) m = true := allB_true (fun i hi => HS.out i hi (hl0 _))
        unfold peerB
        rw [HD.out, HBY.out, hu]; rfl
      clear hrg hl0
      go_wp2
      go_ret2
      exact ⟨_, ret_t rfl hr.out.symm, hB.alloc hB.size _⟩
    · intro x c kl y ps w3 cnt1 hkx hlk hRv hat hrg1 hlt1 hg1 hs1 hen
      have hkl := keyS_lit hkx
      subst hkl
      obtain ⟨i, hi, hix, hc⟩ : ∃ i, i < m ∧ (ids E i).toList = x.toList ∧ c = some ⟨eb, eoff + i * 6, none⟩ := by
        have hy : y = .held (.pointer c) := by
          simp only [PR, Option.some.injEq, Prod.mk.injEq] at hRv
          exact hRv.1.symm
        cases ho : outB (ids E) m x with
        | true =>
          have h1 := hat .nil
          rw [(mapD_at E eb eoff x m).1 ho, hy] at h1
          cases h1
        | false =>
          obtain ⟨i, hi, e, ha⟩ := (mapD_at E eb eoff x m).2 ho
          have h1 := hat .nil
          rw [ha, hy] at h1
          simp only [ptr, DataW.held.injEq, Value.pointer.injEq] at h1
          exact ⟨i, hi, e, h1.symm⟩
      subst hc
      obtain rfl : x = ids E i := by
        apply ByteArray.ext
        apply Array.ext'
        rw [ByteArray.toList_eq, ByteArray.toList_eq] at hix
        exact hix.symm
      have hB1 : Below w.heap.size w w3 := hB.grown hg1 hB.size (fun j hj => by cases hj; exact HBL.out.size)
      have hod3 : w3.ownsMap Tryz.prog 9 PR Bd n (mapD D db doff n) := by
        have hl := HOD.out.lt
        obtain ⟨es, clock, hb, F, hs, hD⟩ := HOD.out
        have hne : Bd ≠ wL.heap.size := by have := HLd.out; have := HBL1.out.size; omega
        exact ⟨es, clock, (hg1.block _ hl (by simp; omega)).trans hb, F, hs, hD⟩
      have nd := (HE.out i hi).below hB1
      have hsz : (ids E i).size ≤ 9223372036854775807 := by
        have := id_size (d := E i) (allB_yes (p := fun i => (E i).ok) HR0.out.2.1 hi)
        show (E i).id.size ≤ _
        omega
      obtain ⟨p, hrun, ho1, ho2⟩ := look_ok hod3 (ids E i) hsz
      have HU : Hid (Calls Tryz.prog 74 #[.map (some Bd), .pointer (some ⟨eb, eoff + i * 6, none⟩)] w3 fun e w' => e = .returned (.bool (hasB (ids D) n (E i).S (E i).n)) ∧ w' = w3) := upsThere_any Bd D db doff n eb (eoff + i * 6) (E i) n w3 hod3 nd (HF'.out i hi).2.2
      have HB1' : Hid (Below w.heap.size w w3) := hB1
      have HOD3 : Hid (w3.ownsMap Tryz.prog 9 PR Bd n (mapD D db doff n)) := hod3
      have HG1 : Hid (w3.ranges Tryz.prog 9 PR B wL.heap.size m (mapD E eb eoff m) (fun z => left z && !z.sameKey (keyL (ids E i))) cnt1) := hrg1
      have HLT : Hid (cnt1 < cnt) := hlt1
      have hBad : waitsB D n (E i) = false → Hid (peerB D n E m = false) := fun hq => by
        show _ = _
        unfold peerB
        rw [allB_false (p := fun i => waitsB D n (E i)) hi hq]; simp
      have HBad : Hid (waitsB D n (E i) = false → Hid (peerB D n E m = false)) := hBad
      clear hrg hrg1 hRv hat hkx hlk hg1 hs1 nd hB1 hlt1 hix hod3 hsz hBad
      cases ho : outB (ids D) n (ids E i) with
      | false =>
        have hr := HBad.out (by unfold waitsB; rw [show outB (ids D) n (E i).id = false from ho]; rfl)
        obtain ⟨ad, hp⟩ := ho2 ho
        subst hp
        clear ho1 ho2 ho HBad HS
        go_wp2
        go_ret2
        exact ⟨.pointer none, ret_t rfl hr.out.symm, HB1'.out⟩
      | true =>
        have hp := ho1 ho
        subst hp
        clear ho1 ho2
        cases hq : hasB (ids D) n (E i).S (E i).n with
        | true =>
          have hr := HBad.out (by unfold waitsB; rw [hq]; simp)
          rw [hq] at HU
          clear HBad HS ho hq
          go_wp2_with (go_at_call 74; refine HU.out.mono ?_; rintro e w4 ⟨rfl, hw4⟩; rw [hw4]; clear hw4 w4)
          go_ret2
          exact ⟨.pointer none, ret_t rfl hr.out.symm, HB1'.out⟩
        | false =>
          have HS' : Hid (∀ j, j < m → (left (keyL (ids E j)) && !(keyL (ids E j)).sameKey (keyL (ids E i))) = false → waitsB D n (E j) = true) := by
            intro j hj hl'
            by_cases hl : left (keyL (ids E j)) = false
            · exact HS.out j hj hl
            · have hl : left (keyL (ids E j)) = true := by simpa using hl
              rw [hl] at hl'
              have hk := keyL_inj (WideAt.sameKey_eq (show (keyL (ids E j)).sameKey (keyL (ids E i)) = true by simpa using hl'))
              rw [rise_inj HR0.out.2.2 hj hi hk]
              unfold waitsB
              rw [show outB (ids D) n (E i).id = true from ho, hq]; rfl
          rw [hq] at HU
          clear HS hq ho HBad
          go_wp2_with (go_at_call 74; refine HU.out.mono ?_; rintro e w4 ⟨rfl, hw4⟩; rw [hw4]; clear hw4 w4)
          go_roundw
          case rel => exact ⟨_, cnt1, HG1.out, HS', HB1'.out, HOD3.out⟩
          case measure => rw [HG1.out.left_eq, HG.out.left_eq]; exact HLT.out

set_option maxHeartbeats 1000000 in
theorem implPeerOk_any (a : Option Addr) (n cap : Nat) (D : Nat → Nd) (b : Option Addr) (m mcap : Nat) (E : Nat → Nd) (w : World) (h : IsNds w a n cap D) (hf : Fine D n) (h' : IsNds w b m mcap E) (hf' : Fine E m) (hP : AllT w) :
    Calls Tryz.prog 32 #[.agg #[.slice a n cap, .slice b m mcap]] w fun e w' => e = .returned (.bool (peerB D n E m)) ∧ Below w.heap.size w w' := by
  obtain ⟨W0, hW0⟩ : ∃ W0, W0 = w.alloc (.cells #[.slice a n cap, .slice b m mcap] 42) := ⟨_, rfl⟩
  have hB0 : Below w.heap.size w W0 := by rw [hW0]; exact (Below.refl _ _).alloc (Nat.le_refl _) _
  have HW : Hid (W0 = w.alloc (.cells #[.slice a n cap, .slice b m mcap] 42)) := hW0
  clear hW0
  go_enter Tryz.func32, Tryz.ntmps32
  go_wp2_with (go_at_call 63; rw [← HW.out]; refine (stockOf_any a n cap D b m mcap E W0 (h.below hB0) hf (h'.below hB0) hf' (hP.below hB0)).mono ?_; rintro e w1 ⟨v, rfl, hB1⟩)
  go_ret
  exact ⟨rfl, hB0.trans (hB1.mono hB0.size)⟩
end Go.Proofs.YtjhbccppihledaaGreatDoor
