/-
  The drawing of FnSettled: a dag and counts. Condition: the code reads as bytes.
  The laws' own questions of lists of numbers: is it among them, are both the same. No condition but that the slices read.
  The law FnSettled returns true at every code. Condition: the code reads as bytes, the tables lie.
-/
import Derived.Test.YtlibipbpaigmdaaGreatDoorDgG
import Derived.Test.YtlibipbpaigmdaaGreatDoorDgI
import Derived.Test.YtlibipbpaigmdaaGreatDoorDgH
namespace Go.Proofs.YtlibipbpaigmdaaGreatDoor
open Go.RowKit
set_option linter.unusedVariables false

theorem Mut.set {R : Nat} {a w : World} (h : Mut R a w) {k o : Nat} {u : Value} (hk : a.heap.size ≤ k) : Mut R a (w.setCell ⟨k, o, none⟩ u) :=
  ⟨h.os, h.tape, h.output, by simpa [World.setCell] using h.size, fun i hi hr => by rw [Below.heap_setCell _ _ _ _ (show i ≠ k by omega)]; exact h.block i hi hr⟩
theorem Draw.set {W : World} {a : Option Addr} {len cap R : Nat} {w : World} (h : Draw W a len cap R w) {k o : Nat} {u : Value} (hk : R < k) : Draw W a len cap R (w.setCell ⟨k, o, none⟩ u) := by
  obtain ⟨p, hp, hb⟩ := h.box
  exact ⟨h.bel.setCell (p := ⟨k, o, none⟩) (Nat.le_trans h.new (Nat.le_of_lt hk)) _, h.new, p, hp, by rw [Below.heap_setCell _ _ _ _ (show R ≠ k by omega)]; exact hb⟩
theorem OwnI.mut {R : Nat} {w w' : World} {base : Nat} {v : Value} {L : List Int} (h : OwnI w base v L) (hM : Mut R w w') (hR : R < base) : OwnI w' base v L :=
  h.blk fun k hk => hM.block k (World.ownsRow.lt h k hk).2 (by have := (World.ownsRow.lt h k hk).1; omega)

section
variable {W : World} {a : Option Addr} {len cap R : Nat} {Z : Nat → Int}
set_option maxHeartbeats 400000 in
theorem near0m_any (hU : IsU8 W a len cap Z) (w : World) (h : Draw W a len cap R w) :
    Calls Tryz.prog 191 #[.pointer (some ⟨R, 0, none⟩), .int .i64 0, .int .i64 1000000] w fun e w' => ∃ x : Int, -9223372036854775808 ≤ x ∧ x ≤ 9223372036854775807 ∧ e = .returned (.int .i64 x) ∧ Draw W a len cap R w' ∧ Mut R w w' := by
  go_enter Tryz.func191, Tryz.ntmps191
  go_wp2_with (first
    | (go_at_call 111; refine (below_any hU 8 (by omega) (by omega) _ h).mono ?_; rintro e w' ⟨x, hx0, hx1, rfl, hD, hM⟩)
    | (go_at_call 227; refine (word_any hU _ hD).mono ?_; rintro e w2 ⟨z, rfl, hD', hM'⟩))
  · go_ret
    exact ⟨_, by omega, by omega, rfl, hD, hM⟩
  · go_ret
    exact ⟨_, by omega, by omega, rfl, hD, hM⟩
  · go_ret
    exact ⟨_, (wrap64_range _).1, (wrap64_range _).2, rfl, hD', hM.trans hM'⟩

set_option maxHeartbeats 400000 in
theorem off0m_any (hU : IsU8 W a len cap Z) (w : World) (h : Draw W a len cap R w) :
    Calls Tryz.prog 159 #[.pointer (some ⟨R, 0, none⟩), .int .i64 0, .int .i64 1000000] w fun e w' => ∃ x : Int, -9223372036854775808 ≤ x ∧ x ≤ 9223372036854775807 ∧ e = .returned (.int .i64 x) ∧ Draw W a len cap R w' ∧ Mut R w w' := by
  go_enter Tryz.func159, Tryz.ntmps159
  go_wp2_with (first
    | (go_at_call 116; refine (once_any hU 24 (by omega) (by omega) _ h).mono ?_; rintro e w' ⟨x, rfl, hD, hM⟩)
    | (go_at_call 191; refine (near0m_any hU _ hD).mono ?_; rintro e w2 ⟨z, hz0, hz1, rfl, hD', hM'⟩))
  · refine (below_any hU 4 (by omega) (by omega) _ (hD.alloc _)).mono ?_
    rintro e w3 ⟨y, hy0, hy1, rfl, hD3, hM3⟩
    have hc := lit_cells hM3 hD.lt
    have c0 := hc 0
    have c1 := hc 1
    have c2 := hc 2
    have c3 := hc 3
    clear hc
    have hM4 : Hid (Mut R w w3) := (hM.alloc _).trans hM3
    clear hM3
    have hy : y = 0 ∨ y = 1 ∨ y = 2 ∨ y = 3 := by omega
    rcases hy with rfl | rfl | rfl | rfl <;> (go_wp2; go_ret; exact ⟨_, by omega, by omega, rfl, hD3, hM4.out⟩)
  · go_ret
    exact ⟨_, by omega, by omega, rfl, hD', hM.trans hM'⟩
end
section
variable {W : World} {a : Option Addr} {len cap R : Nat} {Z : Nat → Int}
set_option maxHeartbeats 1000000 in
theorem counts_any (hU : IsU8 W a len cap Z) (w : World) (h : Draw W a len cap R w) :
    Calls Tryz.prog 105 #[.pointer (some ⟨R, 0, none⟩)] w fun e w' => ∃ cs, cs.length = 9 ∧ e = .returned (.slice (some ⟨w.heap.size, 0, none⟩) 9 9) ∧ OwnI w' w.heap.size (.slice (some ⟨w.heap.size, 0, none⟩) 9 9) cs ∧ Draw W a len cap R w' ∧ Mut R w w' := by
  have HR : Hid (R < w.heap.size) := h.lt
  obtain ⟨i0, hi, hz0, hz1, hz2⟩ := info_parts infoI
  have hb2 : i0.bytes * 9 ≤ 281474976710656 := by rw [hz2]; omega
  have hb3 : 9 ≤ maxLen := by unfold maxLen; omega
  go_enter Tryz.func105, Tryz.ntmps105
  go_wp2_with (at_make; refine wpList_make_full _ rfl _ _ 23 rfl w.heap.size 2 i0 (.int .i64 0) 1 Tryz.underlying23 hi hz0 hz1 .i64 .i64 _ _ 9 rfl rfl rfl rfl hb2 hb3 (Nat.le_refl _) ?_; intro w1 hown hgrow)
  rw [show (madeCells (Value.int .i64 0).cells (9 * 1)).toList = z9.map (.int .i64 ·) from (made_ints (fun _ => 0) 9).trans rfl] at hown
  have hB1 : Below w.heap.size w w1 := (Below.refl _ w).grown hgrow (Nat.le_refl _) (fun k hk => by cases hk)
  have hD1 : Draw W a len cap R w1 := h.below hB1
  have HM1 : Hid (Mut R w w1) := Mut.of_below hB1
  have HO1 : Hid (OwnI w1 w.heap.size (.slice (some ⟨w.heap.size, 0, none⟩) 9 9) z9) := hown
  clear hown hgrow hB1 h
  go_loopw [4] (fun i wr => ∃ (k : Nat) (cs : List Int), k ≤ 3 ∧ i = .int .i64 k ∧ Hid (cs.length = 9) ∧ Hid (OwnI wr w.heap.size (.slice (some ⟨w.heap.size, 0, none⟩) 9 9) cs) ∧ Draw W a len cap R wr ∧ Hid (Mut R w wr)) (fun i _ => 3 - (intOf i).toNat)
  case atStart => exact ⟨0, z9, Nat.zero_le _, rfl, rfl, HO1, hD1, HM1⟩
  case round =>
    obtain ⟨k, cs, hk, rfl, HL, HO, hD, HM⟩ := hrel
    clear hD1 HO1 HM1
    by_cases hlt : k < 3
    · have hltI : (k : Int) < 3 := by omega
      have h9I : (k : Int) < 9 := by omega
      have h9 : k < 9 := by omega
      go_wp2_with fail
      refine (below_any hU 5 (by omega) (by omega) _ hD).mono ?_
      rintro e w2 ⟨x, hx0, hx1, rfl, hD2, hM2⟩
      have HO2 : Hid (OwnI w2 w.heap.size (.slice (some ⟨w.heap.size, 0, none⟩) 9 9) cs) := HO.out.mut hM2 HR.out
      have HM2 : Hid (Mut R w w2) := HM.out.trans hM2
      have how : w2.ownsRow w.heap.size 2 1 (.slice (some ⟨w.heap.size, 0, none⟩) 9 9) 9 (cs.map (.int .i64 ·)) := by have := HO2.out; unfold OwnI at this; rw [HL.out] at this; exact this
      have hfz := how.frozenAt k
      obtain ⟨v0, hcl⟩ := own_some how k (by omega)
      have HF : Hid ((cs.set k x).length = 9 ∧ OwnI (w2.setCell ⟨w.heap.size, k, none⟩ (.int .i64 x)) w.heap.size (.slice (some ⟨w.heap.size, 0, none⟩) 9 9) (cs.set k x)) := by
        refine ⟨by rw [List.length_set]; exact HL.out, ?_⟩
        have h1 := (how.stored k (.int .i64 x)).1
        unfold OwnI
        rw [List.length_set, HL.out, List.map_set]
        exact h1
      have HF2 : Hid (Draw W a len cap R (w2.setCell ⟨w.heap.size, k, none⟩ (.int .i64 x)) ∧ Mut R w (w2.setCell ⟨w.heap.size, k, none⟩ (.int .i64 x))) := ⟨hD2.set HR.out, HM2.out.set (Nat.le_refl _)⟩
      clear how hM2 hD
      go_wp2
      go_roundw
      case rel => exact ⟨k + 1, _, by omega, by go_num, HF.out.1, HF.out.2, HF2.out.1, HF2.out.2⟩
      case measure => simp [intOf]; omega
    · have hke : k = 3 := by omega
      subst hke
      go_wp2_with fail
      refine (once_any hU 20 (by omega) (by omega) _ hD).mono ?_
      rintro e w2 ⟨b, rfl, hD2, hM2⟩
      have HO2 : Hid (OwnI w2 w.heap.size (.slice (some ⟨w.heap.size, 0, none⟩) 9 9) cs) := HO.out.mut hM2 HR.out
      have HM2 : Hid (Mut R w w2) := HM.out.trans hM2
      clear hM2 hD HM HO hlt hk
      cases b with
      | false =>
        go_wp2
        go_ret
        exact ⟨cs, HL.out, rfl, HO2.out, hD2, HM2.out⟩
      | true =>
        go_wp2_with fail
        refine (off0m_any hU _ hD2).mono ?_
        rintro e w3 ⟨x, hx0, hx1, rfl, hD3, hM3⟩
        have HO3 : Hid (OwnI w3 w.heap.size (.slice (some ⟨w.heap.size, 0, none⟩) 9 9) cs) := HO2.out.mut hM3 HR.out
        have HM3 : Hid (Mut R w w3) := HM2.out.trans hM3
        have how : w3.ownsRow w.heap.size 2 1 (.slice (some ⟨w.heap.size, 0, none⟩) 9 9) 9 (cs.map (.int .i64 ·)) := by have := HO3.out; unfold OwnI at this; rw [HL.out] at this; exact this
        have hfz := how.frozenAt 8
        obtain ⟨v0, hcl⟩ := own_some how 8 (by omega)
        have HF : Hid ((cs.set 8 x).length = 9 ∧ OwnI (w3.setCell ⟨w.heap.size, 8, none⟩ (.int .i64 x)) w.heap.size (.slice (some ⟨w.heap.size, 0, none⟩) 9 9) (cs.set 8 x)) := by
          refine ⟨by rw [List.length_set]; exact HL.out, ?_⟩
          have h1 := (how.stored 8 (.int .i64 x)).1
          unfold OwnI
          rw [List.length_set, HL.out, List.map_set]
          exact h1
        have HF2 : Hid (Draw W a len cap R (w3.setCell ⟨w.heap.size, 8, none⟩ (.int .i64 x)) ∧ Mut R w (w3.setCell ⟨w.heap.size, 8, none⟩ (.int .i64 x))) := ⟨hD3.set HR.out, HM3.out.set (Nat.le_refl _)⟩
        clear how hM3 hD2
        go_wp2
        go_ret
        exact ⟨_, HF.out.1, rfl, HF.out.2, HF2.out.1, HF2.out.2⟩
end
section
variable {W : World} {a : Option Addr} {len cap R : Nat} {Z : Nat → Int}
set_option maxHeartbeats 4000000 in
theorem drawSettled_any (w : World) (hU : IsU8 w a len cap Z) :
    Calls Tryz.prog 35 #[.slice a len cap] w fun e w' => ∃ (g gc n : Nat) (D : Nat → Nd) (b : Nat) (cs : List Int), e = .returned (.tuple #[.slice (some ⟨g, 0, none⟩) n gc, .slice (some ⟨b, 0, none⟩) 9 9]) ∧ IsNds w' (some ⟨g, 0, none⟩) n gc D ∧ Fine D n ∧ n ≤ 30 ∧ cs.length = 9 ∧ RdI w' (.slice (some ⟨b, 0, none⟩) 9 9) cs ∧ Below w.heap.size w w' := by
  have HU := (show Hid _ from hU)
  clear hU
  go_enter Tryz.func35, Tryz.ntmps35
  go_wp2_with fail
  refine (open_any a len cap w).mono ?_
  rintro e w1 ⟨rfl, hD1⟩
  have HD1 := (show Hid _ from hD1)
  clear hD1
  go_wp2_with fail
  refine (dag_any HU.out 6 (by omega) w1 HD1.out).mono ?_
  rintro e w2 ⟨g, gc, L, n, hn, rfl, hs2⟩
  have HN : Hid (n = L.length) := hn
  have HS2 : Hid (DS w w1 a len cap w.heap.size (.slice (some ⟨g, 0, none⟩) n gc) L w2) := hs2
  clear hn hs2
  go_wp2_with fail
  refine (counts_any HU.out w2 HS2.out.draw).mono ?_
  rintro e w3 ⟨cs, hcs, rfl, hO, hD3, hM3⟩
  have HE : Hid (cs.length = 9 ∧ OwnI w3 w2.heap.size (.slice (some ⟨w2.heap.size, 0, none⟩) 9 9) cs ∧ Draw w a len cap w.heap.size w3 ∧ Mut w.heap.size w2 w3) := ⟨hcs, hO, hD3, hM3⟩
  clear hcs hO hD3 hM3
  go_wp2
  go_ret2
  exact ⟨g, gc, n, gN L, w2.heap.size, cs, rfl, (HS2.out.keep HE.out.2.2.2).is HN.out, by rw [HN.out]; exact HS2.out.few.fine, by rw [HN.out]; exact HS2.out.few.1, HE.out.1, HE.out.2.1.rd, HE.out.2.2.1.bel⟩
end
end Go.Proofs.YtlibipbpaigmdaaGreatDoor

namespace Go.Proofs.YtlibipbpaigmdaaGreatDoor
open Go.RowKit
set_option linter.unusedVariables false

/-- is it among them? -/
def hasI (L : List Int) (n : Int) : Bool := L.any (· == n)
theorem hasI_yes {L : List Int} {n : Int} {k : Nat} (hk : k < L.length) (h : (L.getD k 0 == n) = true) : hasI L n = true := by
  unfold hasI
  rw [List.any_eq_true]
  refine ⟨L.getD k 0, ?_, h⟩
  simp [hk]
theorem hasI_no {L : List Int} {n : Int} (h : ∀ k, k < L.length → (L.getD k 0 == n) = false) : hasI L n = false := by
  unfold hasI
  rw [List.any_eq_false]
  intro x hx
  obtain ⟨k, hk, rfl⟩ := List.getElem_of_mem hx
  have := h k hk
  simpa [hk] using this


set_option maxHeartbeats 1000000 in
theorem sameI_same (v v' : Value) (L : List Int) (w : World) (h : RdI w v L) (h' : RdI w v' L) :
    Calls Tryz.prog 42 #[v, v'] w fun e w' => e = .returned (.bool true) ∧ Below w.heap.size w w' := by
  obtain ⟨a, cap, rfl, hlc, hcm, hc⟩ := h
  obtain ⟨a', cap', rfl, hlc', hcm', hc'⟩ := h'
  obtain ⟨len, hlen⟩ : ∃ len, len = L.length := ⟨_, rfl⟩
  rw [← hlen] at hlc hlc' hc hc' ⊢
  clear hlen
  have hbn : ((len : Int) != (len : Int)) = false := by simp
  go_enter Tryz.func42, Tryz.ntmps42
  go_wp2
  go_loopw [5] (fun i wr => ∃ (k : Nat), k ≤ len ∧ i = .int .i64 k ∧ Below w.heap.size w wr)
    (fun i _ => len - (intOf i).toNat)
  case atStart => exact ⟨0, Nat.zero_le _, rfl, Below.refl _ _⟩
  case round =>
    obtain ⟨k, hk, rfl, hB⟩ := hrel
    by_cases hlt : k < len
    · obtain ⟨b, off, rfl, hbs, hcell⟩ := hc (by omega)
      obtain ⟨b', off', rfl, hbs', hcell'⟩ := hc' (by omega)
      have d1 := (hB.cell (p := ⟨b, off + k, none⟩) hbs).trans (hcell k hlt)
      have d1' := (hB.cell (p := ⟨b', off' + k, none⟩) hbs').trans (hcell' k hlt)
      obtain ⟨z, hz⟩ : ∃ z, z = L.getD k 0 := ⟨_, rfl⟩
      rw [← hz] at d1 d1'
      have hss : (z != z) = false := by simp
      clear hcell hc hcell' hc' hz
      go_wp2
      go_quiet (fail)
      go_wp2
      go_roundw
      case rel => exact ⟨k + 1, by omega, by go_num, hB.trans ⟨rfl, rfl, rfl, Nat.le_refl _, fun _ _ => rfl⟩⟩
      case measure => simp [intOf]; omega
    · have hke : k = len := by omega
      subst hke
      go_wp2
      go_ret
      exact ⟨rfl, hB⟩

end Go.Proofs.YtlibipbpaigmdaaGreatDoor

namespace Go.Proofs.YtlibipbpaigmdaaGreatDoor
open Go.RowKit
set_option linter.unusedVariables false

theorem settled_up {D : Nat → Nd} {n : Nat} {cs : List Int} (hq : dagB D n = true) {k j : Nat} (hk : k < n) (hj : j < (D k).n) (h : SetP D n cs (ids D k).toList) : SetP D n cs ((D k).S j).toList := by
  refine ⟨ups_ids hq hk hj, fun i hi hr => h.2 i hi ?_⟩
  rw [tx_toList] at hr ⊢
  refine hr (Reach D n (one (ids D k)) 1) (fun j' i' hj' hi' e => ?_) (fun i' j' hi' ih hj' => .step i' j' hi' ih hj')
  exact .step k j hk (.base (T := one (ids D k)) 0 k (by omega) hk rfl) hj
theorem settled_cov {D : Nat → Nd} {n : Nat} {cs : List Int} {k : Nat} (hk : k < n) (h : SetP D n cs (ids D k).toList) : covB cs (D k) = true := by
  refine h.2 k hk ?_
  rw [tx_toList]
  exact .base (T := one (ids D k)) 0 k (by omega) hk rfl
theorem node_in {D : Nat → Nd} {n k : Nat} (hq : dagB D n = true) (hk : k < n) : 1 ≤ (D k).a ∧ (D k).a ≤ 9 ∧ 1 ≤ (D k).s ∧ (D k).s ≤ 1000000 := by
  have h := (dagB_parts hq).2.1 k hk
  unfold Nd.ok nodeB inB at h
  simp only [Bool.and_eq_true, decide_eq_true_eq] at h
  omega
theorem cnt_in {D : Nat → Nd} {n : Nat} (hq : dagB D n = true) (who : Int) : ∀ k, k ≤ n → 0 ≤ cnt D who k ∧ cnt D who k ≤ 1000000
  | 0, _ => by simp [cnt]
  | k + 1, hk => by
    have ih := cnt_in hq who k (by omega)
    have hn := node_in hq (show k < n by omega)
    by_cases h : (D k).a = who
    · rw [cnt_yes h]; omega
    · rw [cnt_no h]; exact ih
theorem cnt_ge {D : Nat → Nd} {who : Int} {i : Nat} (h : (D i).a = who) : ∀ k, i < k → (D i).s ≤ cnt D who k
  | 0, hi => by omega
  | k + 1, hi => by
    rcases Nat.lt_succ_iff_lt_or_eq.1 hi with h1 | rfl
    · have ih := cnt_ge h k h1
      by_cases h2 : (D k).a = who
      · rw [cnt_yes h2]; omega
      · rw [cnt_no h2]; exact ih
    · rw [cnt_yes h]; omega
theorem own_right {D : Nat → Nd} {n : Nat} (hq : dagB D n = true) : csB (cntR D n) = true := by
  unfold csB cntR
  rw [if_pos hq, lst9_len]
  refine Bool.and_eq_true_iff.2 ⟨by simp, allB_true fun i hi => ?_⟩
  have h := cnt_in hq ((i : Int) + 1) n (Nat.le_refl _)
  unfold cAt inB lst9 cntF
  simp [hi]
  omega
theorem own_cov {D : Nat → Nd} {n : Nat} (hq : dagB D n = true) {i : Nat} (hi : i < n) : covB (cntR D n) (D i) = true := by
  have hn := node_in hq hi
  have h := cnt_ge (D := D) (who := (D i).a) rfl n hi
  unfold covB numOf cntR
  rw [if_pos hq]
  obtain ⟨av, hav⟩ : ∃ av : Nat, (D i).a = ((av : Nat) : Int) + 1 := ⟨((D i).a - 1).toNat, by omega⟩
  have h9 : av < 9 := by omega
  rw [show ((D i).a - 1).toNat = av by omega]
  rw [hav] at h
  unfold lst9 cntF
  simp [h9]
  exact h
theorem idsL_nodup {D : Nat → Nd} {n : Nat} (hq : dagB D n = true) : (idsL D n).Nodup := by
  unfold idsL List.Nodup
  rw [List.pairwise_map]
  refine List.Pairwise.imp_of_mem (fun {a b} ha hb hne e => hne ?_) (List.nodup_range (n := n))
  exact rise_inj (dagB_parts hq).2.2.1 (List.mem_range.1 ha) (List.mem_range.1 hb) e
theorem own_all {D : Nat → Nd} {n : Nat} (hq : dagB D n = true) {L : List (List UInt8)} (hU : Up L) (hM : ∀ x, x ∈ L ↔ (dagB D n && csB (cntR D n)) = true ∧ SetP D n (cntR D n) x) : L.length = n := by
  have h1 : L.length ≤ n := up_len hU (fun x hx => ((hM x).1 hx).2.1)
  have h2 := len_le (idsL D n) L (idsL_nodup hq) (fun x hx => (hM x).2 ⟨by rw [hq, own_right hq]; rfl, (idsL_mem D n x).1 hx, fun i hi _ => own_cov hq hi⟩)
  rw [idsL_len] at h2
  omega

set_option maxRecDepth 20000 in
set_option maxHeartbeats 8000000 in
theorem fnSettled_walk {a : Option Addr} {len cap : Nat} {Z : Nat → Int} (W : World) (hU : IsU8 W a len cap Z) (hP : AllT W) :
    Calls Tryz.prog 6 #[.slice a len cap] W fun e w' => e = .returned (.bool true) ∧ Below W.heap.size W w' := by
  have HU := (show Hid _ from hU)
  have HP := (show Hid _ from hP)
  clear hU hP
  obtain ⟨big, hbig⟩ : ∃ b, b = decide ((1048576 : Int) < (len : Int)) := ⟨_, rfl⟩
  have HBig : Hid (Calls Tryz.prog 34 #[.slice a len cap] W fun e w' => e = .returned (.bool big) ∧ w' = W) := by rw [hbig]; exact big_any a len cap W
  clear hbig
  go_enter Tryz.func6, Tryz.ntmps6
  go_wp2_with fail
  refine HBig.out.mono ?_
  rintro e w0 ⟨rfl, hw0⟩
  rw [hw0]
  clear hw0 w0 HBig
  cases big with
  | true =>
    go_wp2
    go_ret
    exact ⟨rfl, Below.refl _ _⟩
  | false =>
  go_wp2_with fail
  refine (drawSettled_any W HU.out).mono ?_
  rintro e w1 ⟨g, gc, n, D, b, cs, rfl, hI, hF, hn, hcl, hC, b1⟩
  have HI : Hid (IsNds w1 (some ⟨g, 0, none⟩) n gc D) := hI
  have HF : Hid (Fine D n) := hF
  have HB1 : Hid (Below W.heap.size W w1) := b1
  have HM : Hid (n ≤ 30) := hn
  have HC : Hid (RdI w1 (.slice (some ⟨b, 0, none⟩) 9 9) cs) := hC
  have HCL : Hid (cs.length = 9) := hcl
  obtain ⟨ok, hok⟩ : ∃ ok, ok = (dagB D n && csB cs) := ⟨_, rfl⟩
  have HOK : Hid (ok = (dagB D n && csB cs)) := hok
  have HIm : Hid (Calls Tryz.prog 19 #[.slice (some ⟨g, 0, none⟩) n gc, .slice (some ⟨b, 0, none⟩) 9 9] w1 fun e w'' => ∃ v L, e = .returned (.tuple #[v, .bool ok]) ∧ OwnL w'' w1.heap.size v L ∧ Up L ∧ (∀ x, x ∈ L ↔ (dagB D n && csB cs) = true ∧ SetP D n cs x) ∧ Below w1.heap.size w1 w'') := by
    rw [hok]
    exact implSettled_any _ n gc D _ cs w1 hI hF hC (HP.out.below b1)
  have HSp : Hid (∀ w', Below w1.heap.size w1 w' → Calls Tryz.prog 16 #[.slice (some ⟨g, 0, none⟩) n gc, .slice (some ⟨b, 0, none⟩) 9 9] w' fun e w'' => ∃ v L, e = .returned (.tuple #[v, .bool ok]) ∧ OwnL w'' w'.heap.size v L ∧ Up L ∧ (∀ x, x ∈ L ↔ (dagB D n && csB cs) = true ∧ SetP D n cs x) ∧ Below w'.heap.size w' w'') := fun w' hB => by
    rw [hok]
    exact specSettled_any _ n gc D _ cs w' (hI.below hB) hF (hC.below hB)
  have hgc1 := hI.1
  have hgc2 := hI.2.1
  have hokn : (ok != ok) = false := by simp
  have hoke : (ok == ok) = true := by simp
  clear hI hF b1 hn hC hcl hok
  go_wp2_with fail
  refine HIm.out.mono ?_
  rintro e w2 ⟨v2, K, rfl, o2, hKu, hKm, hB2⟩
  have HKM : Hid (∀ x, x ∈ K ↔ (dagB D n && csB cs) = true ∧ SetP D n cs x) := hKm
  have HKU : Hid (Up K) := hKu
  obtain ⟨a2, c2, rfl, i2, _⟩ := o2.strs
  obtain ⟨kl, hkl⟩ : ∃ kl, kl = K.length := ⟨_, rfl⟩
  rw [← hkl] at i2 ⊢
  have HI2 : Hid (IsStrs w2 a2 kl c2 (atL K)) := i2
  have HB2 : Hid (Below w1.heap.size w1 w2) := hB2
  have HKL : Hid (kl = K.length) := hkl
  clear o2 i2 hB2 hkl hKu hKm HIm
  go_wp2_with fail
  refine (HSp.out w2 HB2.out).mono ?_
  rintro e w3 ⟨v3, K3, rfl, o3, hU3, hM3, hB3⟩
  obtain rfl : K3 = K := up_unique hU3 HKU.out (fun x => by rw [hM3 x, HKM.out x])
  obtain ⟨a3, c3, rfl, i3, _⟩ := o3.strs
  rw [← HKL.out] at i3 ⊢
  have HI3 : Hid (IsStrs w3 a3 kl c3 (atL K3)) := i3
  have HB3 : Hid (Below w1.heap.size w1 w3) := HB2.out.trans (hB3.mono HB2.out.size)
  have HI23 : Hid (IsStrs w3 a2 kl c2 (atL K3)) := HI2.out.below hB3
  clear o3 i3 hB3 hU3 hM3
  go_wp2_with fail
  refine (sameL_any _ _ _ _ kl K3 w3 HI23.out HI3.out).mono ?_
  rintro e w4 ⟨rfl, hB4⟩
  have HB4 : Hid (Below w1.heap.size w1 w4) := HB3.out.trans (hB4.mono HB3.out.size)
  have HI4 : Hid (IsStrs w4 a2 kl c2 (atL K3)) := HI23.out.below hB4
  have HI34 : Hid (IsStrs w4 a3 kl c3 (atL K3)) := HI3.out.below hB4
  clear hB4
  cases ok with
  | false =>
    go_wp2_with fail
    refine (sameL_any _ _ _ _ kl K3 w4 HI4.out HI34.out).mono ?_
    rintro e w5 ⟨rfl, hB5⟩
    go_wp2
    go_ret
    exact ⟨rfl, HB1.out.trans ((HB4.out.trans (hB5.mono HB4.out.size)).mono HB1.out.size)⟩
  | true =>
    have HQ : Hid (dagB D n = true) := by
      have := HOK.out.symm
      simp only [Bool.and_eq_true] at this
      exact this.1
    have HKS : Hid (∀ x, x ∈ K3 → SetP D n cs x) := fun x hx => ((HKM.out x).1 hx).2
    go_wp2_with fail
    refine (lawIds_any _ n gc D w4 (HI.out.below HB4.out) HF.out (by have := HM.out; omega)).mono ?_
    rintro e w6 ⟨ga, ac, rfl, ia, hB6⟩
    have HIA : Hid (IsStrs w6 ga n ac (ids D)) := ia
    have HI6 : Hid (IsStrs w6 a2 kl c2 (atL K3)) := HI4.out.below hB6
    have HB6 : Hid (Below w1.heap.size w1 w6) := HB4.out.trans (hB6.mono HB4.out.size)
    have HN6 : Hid (IsNds w6 (some ⟨g, 0, none⟩) n gc D) := HI.out.below HB6.out
    have HC6 : Hid (RdI w6 (.slice (some ⟨b, 0, none⟩) 9 9) cs) := HC.out.below HB6.out
    have hac1 := ia.1
    have hac2 := ia.2.1
    clear ia hB6
    go_wp2
    go_loopw [10, 11] (fun f i wr => ∃ (k : Nat), k ≤ n ∧ f = .bool true ∧ i = .int .i64 k ∧ Hid (Below w6.heap.size w6 wr)) (fun _ i _ => n - (Go.RowKit.intOf i).toNat)
    case atStart => exact ⟨0, Nat.zero_le _, rfl, rfl, Below.refl _ _⟩
    case round =>
      obtain ⟨k, hk, rfl, rfl, HB⟩ := hrel
      by_cases hlt : k < n
      · have hltI : (k : Int) < (n : Int) := by omega
        obtain ⟨ub, uo, hu, hub, hucell⟩ := (HIA.out.below HB.out).2.2 (by omega)
        have q1 : ∀ s : Later wr, s.val.cell? ⟨ub, uo + k, none⟩ = some (.string (ids D k)) := fun s => s.cell (hucell k hlt)
        obtain ⟨gb, go, hg, _, hgcell⟩ := (HN6.out.below HB.out).2.2 (by omega)
        cases hg
        obtain ⟨c0, c1, c2', c3', c4, c5, ci⟩ := hgcell k hlt
        simp only [Nat.zero_add] at c0 c1 c2' c3' c4 c5
        have hnd := node_in HQ.out hlt
        obtain ⟨av, hav⟩ : ∃ av : Nat, (D k).a = ((av : Nat) : Int) + 1 := ⟨((D k).a - 1).toNat, by omega⟩
        obtain ⟨sv, hsv⟩ : ∃ sv, sv = (D k).s := ⟨_, rfl⟩
        rw [hav] at c0
        rw [← hsv] at c1
        have hav9 : av < 9 := by omega
        have hav9I : (av : Int) < 9 := by omega
        have ha1 : ((av : Nat) : Int) + 1 ≤ 9 := by omega
        have ha2 : decide ((9 : Int) < ((av : Nat) : Int) + 1) = false := by simp; omega
        have ha3 : ¬ (9 : Int) < ((av : Nat) : Int) + 1 := by omega
        have ha4 : (((av : Nat) : Int) + 1) - 1 = (av : Int) := by omega
        obtain ⟨cv, hcv⟩ : ∃ cv, cv = cs.getD av 0 := ⟨_, rfl⟩
        have hcc : wr.cell? ⟨b, av, none⟩ = some (.int .i64 cv) := by
          obtain ⟨ca, cc, e, _, _, h3⟩ := HC6.out.below HB.out
          simp only [Value.slice.injEq] at e
          obtain ⟨b', o', e2, _, h4⟩ := h3 (by rw [HCL.out]; omega)
          rw [← e.1] at e2
          cases e2
          have := h4 av (by rw [HCL.out]; exact hav9)
          rw [hcv]
          simpa using this
        have q2 : ∀ s : Later wr, s.val.cell? ⟨g, k * 6, none⟩ = some (.int .i64 (((av : Nat) : Int) + 1)) := fun s => s.cell c0
        have q3 : ∀ s : Later wr, s.val.cell? ⟨g, k * 6 + 1, none⟩ = some (.int .i64 sv) := fun s => s.cell c1
        have q4 : ∀ s : Later wr, s.val.cell? ⟨g, k * 6 + 5, none⟩ = some (.slice (D k).u (D k).n (D k).cap) := fun s => s.cell c5
        have q5 : ∀ s : Later wr, s.val.cell? ⟨b, av, none⟩ = some (.int .i64 cv) := fun s => s.cell hcc
        have hne := Later.any wr
        obtain ⟨c, hc⟩ : ∃ c, c = !(outB (atL K3) kl (ids D k)) := ⟨_, rfl⟩
        have HH1 : Hid (∀ s : Later wr, Calls Tryz.prog 38 #[.slice a2 kl c2, .string (ids D k)] s.val fun e w' => e = .returned (.bool c) ∧ Below s.val.heap.size s.val w') := fun s => by
          refine (lawHas_any a2 kl c2 (atL K3) (ids D k) s.val ((HI6.out.below HB.out).below s.ok)).mono ?_
          rintro e w' ⟨rfl, rfl⟩
          exact ⟨by rw [hc], Below.refl _ _⟩
        have hmem : c = true → (ids D k).toList ∈ K3 := fun h => by
          have h1 : outB (atL K3) kl (ids D k) = false := by rw [hc] at h; simpa using h
          rw [HKL.out] at h1
          exact (out_mem K3 _).1 h1
        have HW1 : Hid (∀ s : Later wr, c = true → Calls Tryz.prog 39 #[.slice (D k).u (D k).n (D k).cap, .slice a2 kl c2] s.val fun e w' => e = .returned (.bool true) ∧ Below s.val.heap.size s.val w') := fun s h => by
          have h2 := hmem h
          refine (lawWithin_any _ _ _ _ a2 kl c2 (atL K3) s.val (ci.below s.ok) ((HI6.out.below HB.out).below s.ok)).mono ?_
          rintro e w' ⟨rfl, rfl⟩
          refine ⟨?_, Below.refl _ _⟩
          rw [HKL.out, hasB_of (fun j hj => ?_)]
          exact (HKM.out _).2 ⟨HOK.out.symm, settled_up HQ.out hlt hj (HKS.out _ h2)⟩
        have hcov : c = true → sv ≤ cv := fun h => by
          have h3 := settled_cov hlt (HKS.out _ (hmem h))
          unfold covB numOf at h3
          rw [decide_eq_true_eq] at h3
          rw [hsv, hcv]
          rw [show ((D k).a - 1).toNat = av by omega] at h3
          exact h3
        subst hu
        clear hucell hgcell ci hc hnd hav hsv hcv hmem c2' c3' c4 hcc
        cases c with
        | true =>
          have hle := hcov rfl
          have hcv1 : ¬ cv < sv := by omega
          have hcv2 : decide (cv < sv) = false := by simp; omega
          have HW2 : Hid (∀ s : Later wr, Calls Tryz.prog 39 #[.slice (D k).u (D k).n (D k).cap, .slice a2 kl c2] s.val fun e w' => e = .returned (.bool true) ∧ Below s.val.heap.size s.val w') := fun s => HW1.out s rfl
          clear hle hcov HW1
          go_wp2
          refine wp_region_later (by kernel_rfl) (by kernel_rfl) ?_
          repeat (go_big_quiet_step ((rename_i s; first | with_reducible exact Calls.later (HH1.out s) | with_reducible exact Calls.later (HW2.out s))))
          refine wpQuiet_nil ?_
          rintro _ ⟨⟨w', hB2⟩, rfl⟩
          have HB3 : Hid (Below w6.heap.size w6 _) := HB.out.trans (hB2.mono HB.out.size)
          clear hB2
          go_wp2
          go_roundw
          case rel => exact ⟨k + 1, by omega, rfl, by go_num, HB3⟩
          case measure => simp [Go.RowKit.intOf]; omega
        | false =>
          clear hcov HW1
          go_wp2
          refine wp_region_later (by kernel_rfl) (by kernel_rfl) ?_
          repeat (go_big_quiet_step ((rename_i s; exact Calls.later (HH1.out s))))
          refine wpQuiet_nil ?_
          rintro _ ⟨⟨w', hB2⟩, rfl⟩
          have HB3 : Hid (Below w6.heap.size w6 _) := HB.out.trans (hB2.mono HB.out.size)
          clear hB2
          go_wp2
          go_roundw
          case rel => exact ⟨k + 1, by omega, rfl, by go_num, HB3⟩
          case measure => simp [Go.RowKit.intOf]; omega
      · have hke : k = n := by omega
        subst hke
        have HBr : Hid (Below w1.heap.size w1 wr) := HB6.out.trans (HB.out.mono HB6.out.size)
        have HCo : Hid (Calls Tryz.prog 40 #[.slice (some ⟨g, 0, none⟩) k gc] wr fun e w' => ∃ v, e = .returned (.tuple #[v, .bool true]) ∧ OwnI w' wr.heap.size v (cntR D k) ∧ Below wr.heap.size wr w') := by
          have := implCountsOf_any _ k gc D wr (HI.out.below HBr.out) HF.out (HP.out.below (HB1.out.trans (HBr.out.mono HB1.out.size)))
          rw [HQ.out] at this
          exact this
        go_wp2_with fail
        refine HCo.out.mono ?_
        rintro e w7 ⟨v7, rfl, o7, hB7⟩
        have HO7 : Hid (RdI w7 v7 (cntR D k)) := o7.rd
        have HB7 : Hid (Below w1.heap.size w1 w7) := HBr.out.trans (hB7.mono HBr.out.size)
        have HCs : Hid (Calls Tryz.prog 41 #[.slice (some ⟨g, 0, none⟩) k gc] w7 fun e w' => ∃ v, e = .returned (.tuple #[v, .bool true]) ∧ OwnI w' w7.heap.size v (cntR D k) ∧ Below w7.heap.size w7 w') := by
          have := specCountsOf_any _ k gc D w7 (HI.out.below HB7.out) HF.out
          rw [HQ.out] at this
          exact this
        obtain ⟨u7, c7, rfl, _⟩ : ∃ u c, v7 = .slice u (cntR D k).length c ∧ True := by obtain ⟨u, c, e, _⟩ := o7.rd; exact ⟨u, c, e, trivial⟩
        obtain ⟨l9, hl9⟩ : ∃ l, l = (cntR D k).length := ⟨_, rfl⟩
        rw [← hl9] at HO7 ⊢
        clear o7 hB7 hl9
        go_wp2_with fail
        refine HCs.out.mono ?_
        rintro e w8 ⟨v8, rfl, o8, hB8⟩
        have HO8 : Hid (RdI w8 v8 (cntR D k)) := o8.rd
        have HO78 : Hid (RdI w8 (.slice u7 l9 c7) (cntR D k)) := HO7.out.below hB8
        have HB8 : Hid (Below w1.heap.size w1 w8) := HB7.out.trans (hB8.mono HB7.out.size)
        have HSe : Hid (Calls Tryz.prog 19 #[.slice (some ⟨g, 0, none⟩) k gc, .slice u7 l9 c7] w8 fun e w'' => ∃ v L, e = .returned (.tuple #[v, .bool true]) ∧ OwnL w'' w8.heap.size v L ∧ Up L ∧ (∀ x, x ∈ L ↔ (dagB D k && csB (cntR D k)) = true ∧ SetP D k (cntR D k) x) ∧ Below w8.heap.size w8 w'') := by
          have := implSettled_any _ k gc D _ (cntR D k) w8 (HI.out.below HB8.out) HF.out HO78.out (HP.out.below (HB1.out.trans (HB8.out.mono HB1.out.size)))
          rw [show (dagB D k && csB (cntR D k)) = true from by rw [HQ.out, own_right HQ.out]; rfl] at this
          rw [show (dagB D k && csB (cntR D k)) = true from by rw [HQ.out, own_right HQ.out]; rfl]
          exact this
        clear o8 hB8
        go_wp2_with fail
        refine HSe.out.mono ?_
        rintro e w9 ⟨v9, L9, rfl, o9, hU9, hM9, hB9⟩
        have HL9 : Hid (L9.length = k) := own_all HQ.out hU9 hM9
        obtain ⟨a9, c9, rfl, i9, _⟩ := o9.strs
        have HB9 : Hid (Below w1.heap.size w1 w9) := HB8.out.trans (hB9.mono HB8.out.size)
        have HO89 : Hid (RdI w9 v8 (cntR D k)) := HO8.out.below hB9
        have HO79 : Hid (RdI w9 (.slice u7 l9 c7) (cntR D k)) := HO78.out.below hB9
        rw [HL9.out] at i9 ⊢
        have hc91 := i9.1
        have hc92 := i9.2.1
        clear o9 hU9 hM9 hB9 i9
        go_wp2_with fail
        refine (sameI_same _ _ (cntR D k) w9 HO79.out HO89.out).mono ?_
        rintro e w10 ⟨rfl, hB10⟩
        have HB10 : Hid (Below w1.heap.size w1 w10) := HB9.out.trans (hB10.mono HB9.out.size)
        clear hB10
        go_wp2
        go_ret
        exact ⟨rfl, HB1.out.trans (HB10.out.mono HB1.out.size)⟩
end Go.Proofs.YtlibipbpaigmdaaGreatDoor
