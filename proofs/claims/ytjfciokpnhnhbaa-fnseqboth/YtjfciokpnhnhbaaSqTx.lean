/-
  The text of a sequence, by the program and by the specification. No condition but that the slice reads.
-/
import Derived.Test.YtjfciokpnhnhbaaSqY
import Derived.Test.YtjfciokpnhnhbaaBdW
import Derived.Test.YtjfciokpnhnhbaaShelfB
namespace Go.Proofs.Ytjfciokpnhnhbaa
open Go.RowKit
set_option linter.unusedVariables false

/-- the sign of an insert, by its id -/
def sgn (D : Nat → Ev) (n : Nat) (y : Int) : ByteArray := (D ((firstA D y n).getD 0)).d
theorem sgn_at {D : Nat → Ev} {n j : Nat} (hok : allB (okS D) n = true) (hj : j < n) : sgn D n (D j).a = (D j).d ∧ firstA D (D j).a n = some j := by
  have h : firstA D (D j).a n = some j := firstA_at (fun i hi e => by have := rise_inj hok (by omega) hj e; omega) rfl n hj
  unfold sgn
  rw [h]
  exact ⟨rfl, rfl⟩
theorem sgn_one {D : Nat → Ev} {n : Nat} (hok : allB (okS D) n = true) {y : Int} (h : insB D n y = true) : (sgn D n y).size = 1 := by
  obtain ⟨j, hj, hb, rfl⟩ := insB_iff.1 h
  rw [(sgn_at hok hj).1]
  have h1 := allB_at hok hj
  unfold okS kindB sgB at h1
  rw [if_pos hb] at h1
  simp only [Bool.and_eq_true, decide_eq_true_eq] at h1
  exact h1.2.1.1
/-- the signs of these ids, one behind the other -/
def textOf (D : Nat → Ev) (n : Nat) (L : List Int) : ByteArray := L.foldl (fun s y => s ++ sgn D n y) ⟨#[]⟩
theorem textOf_snoc (D : Nat → Ev) (n : Nat) (L : List Int) (y : Int) : textOf D n (L ++ [y]) = textOf D n L ++ sgn D n y := by unfold textOf; rw [List.foldl_append]; rfl
def textR (D : Nat → Ev) (n : Nat) : ByteArray := textOf D n (idsR D n)
theorem textOf_take (D : Nat → Ev) (n : Nat) (L : List Int) {k : Nat} (h : k < L.length) : textOf D n (L.take (k + 1)) = textOf D n (L.take k) ++ sgn D n (L.getD k 0) := by rw [take_snocI L h, textOf_snoc]
theorem textOf_len {D : Nat → Ev} {n : Nat} (hok : allB (okS D) n = true) {L : List Int} (h : ∀ y ∈ L, insB D n y = true) : ∀ k, k ≤ L.length → (textOf D n (L.take k)).size = k
  | 0, _ => rfl
  | k + 1, hk => by
    rw [textOf_take D n L (by omega), ByteArray.size_append, textOf_len hok h k (by omega), sgn_one hok (h _ (by simp [List.getD, show k < L.length by omega]))]

set_option maxRecDepth 10000 in
set_option maxHeartbeats 4000000 in
theorem implText_any (a : Option Addr) (len cap : Nat) (D : Nat → Ev) (w : World) (h : IsEvs w a len cap D) (hF : ∀ i, i < len → (D i).in) :
    Calls Try.prog 12 #[.slice a len cap] w fun e w' => e = .returned (.string (textR D len)) ∧ Below w.heap.size w w' := by
  obtain ⟨W0, hW0⟩ : ∃ W0, W0 = w.alloc (.cells #[.pointer none, .slice none 0 0] 57) := ⟨_, rfl⟩
  have HW0 := (show Hid _ from hW0)
  have HB0 : Hid (Below w.heap.size w W0) := by rw [hW0]; exact (Below.refl _ _).alloc (Nat.le_refl _) _
  have HBL0 : Hid (W0.heap[w.heap.size]? = some (.cells #[.pointer none, .slice none 0 0] 57 (0, 0))) := by rw [hW0]; exact heap_alloc_new _ _
  have HE : Hid (IsEvs W0 a len cap D) := h.below HB0.out
  have HFF := (show Hid _ from hF)
  clear hW0 h hF
  go_enter Try.func12, Try.ntmps12
  go_wp2_with fail
  rw [← HW0.out]
  refine (shown_any a len cap D W0 HE.out HFF.out).mono ?_
  rintro e w1 ⟨v, P, S, rfl, hB1, hno, hyes⟩
  have HB1 : Hid (Below W0.heap.size W0 w1) := hB1
  obtain ⟨L, hL⟩ : ∃ L, L = idsR D len := ⟨_, rfl⟩
  have hrow : ∃ va vc, v = .slice va L.length vc ∧ (0 < L.length → ∃ b off, va = some ⟨b, off, none⟩ ∧ (∃ cur, w1.heap[b]? = some (.cells cur 60 (0, 0))) ∧ ∀ j, j < L.length → w1.cell? ⟨b, off + j, none⟩ = some (.pointer (some ⟨P (L.getD j 0), 0, none⟩)) ∧ ∃ x d k, w1.heap[P (L.getD j 0)]? = some (.cells #[x, .string (sgn D len (L.getD j 0)), d, k] 66 (0, 0))) := by
    cases hs : seqB D len with
    | false =>
      rw [hL, idsR_no hs]
      exact ⟨none, 0, hno hs, fun hp => absurd hp (Nat.lt_irrefl _)⟩
    | true =>
      obtain ⟨s1, s2, s3⟩ := hyes hs
      have e : L = idsL D len := by rw [hL, idsR_yes hs]
      rw [← e] at s1 s2
      have s1' : w1.ownsRow W0.heap.size 60 1 v (L.map fun y => ptr (P y)).length (L.map fun y => ptr (P y)) := by rw [List.length_map]; exact s1
      obtain ⟨va, vc, ev, hc⟩ := row_rdp s1'
      rw [List.length_map] at ev hc
      refine ⟨va, vc, ev, fun hp => ?_⟩
      obtain ⟨b, off, ea, hb, hcc⟩ := hc hp
      refine ⟨b, off, ea, ?_, fun j hj => ?_⟩
      · refine row_type s1 ?_
        rw [ev, ea]
        rfl
      have hm : L.getD j 0 ∈ L := by simp [List.getD, hj]
      obtain ⟨d, k, hn⟩ := s2 _ hm
      have hins : insB D len (L.getD j 0) = true := by rw [hL] at hm ⊢; exact (idsR_ins hm).1
      obtain ⟨i, hi, hbi, hai⟩ := insB_iff.1 hins
      have hsg : S (L.getD j 0) = sgn D len (L.getD j 0) := by rw [← hai, s3 i hi hbi, (sgn_at (seqB_parts hs).2 hi).1]
      rw [hsg] at hn
      refine ⟨hcc j _ ?_, _, _, _, hn⟩
      rw [List.getElem?_map, List.getElem?_eq_getElem hj]
      simp [List.getD, hj, ptr]
  have HLL : Hid (L = idsR D len ∧ L.length ≤ 40) := ⟨hL, by rw [hL]; exact idsR_len D len⟩
  have HTL : Hid (∀ k, k ≤ L.length → (textOf D len (L.take k)).size ≤ 40 ∧ (0 < L.length → (sgn D len (L.getD k 0)).size ≤ 40 ∨ L.length ≤ k)) := fun k hk => by
    cases hs : seqB D len with
    | false =>
      have e : L = [] := by rw [hL, idsR_no hs]
      rw [e] at hk ⊢
      refine ⟨?_, fun hp => absurd hp (Nat.lt_irrefl _)⟩
      have e0 : textOf D len (([] : List Int).take k) = ⟨#[]⟩ := by rw [List.take_nil]; rfl
      rw [e0]
      exact Nat.zero_le _
    | true =>
      have hin : ∀ y ∈ L, insB D len y = true := fun y hy => by rw [hL] at hy; exact (idsR_ins hy).1
      refine ⟨by rw [textOf_len (seqB_parts hs).2 hin k hk]; have := HLL.out.2; omega, fun _ => ?_⟩
      by_cases hk2 : k < L.length
      · left
        rw [sgn_one (seqB_parts hs).2 (hin _ (by simp [List.getD, hk2]))]
        omega
      · right
        omega
  obtain ⟨va, vc, rfl, hcc⟩ := hrow
  obtain ⟨m, hm⟩ : ∃ m, m = L.length := ⟨_, rfl⟩
  rw [← hm] at hcc ⊢
  have HM : Hid (m = L.length) := hm
  have hm40 : m ≤ 40 := by have := HLL.out.2; omega
  have HBD : Hid (Lib.IsBuilder 57 5 w.heap.size w.heap.size (Lib.strCells (textOf D len (L.take 0))) w1) := .inl ⟨Nat.le_refl _, .slice none 0 0, (HB1.out.block _ (lt_of_block HBL0.out)).trans HBL0.out, World.ownsRow_nil _ _ _ _, by simp [Value.ownBlock]⟩
  have HBB : Hid (Below w.heap.size w w1) := HB0.out.trans (HB1.out.mono HB0.out.size)
  clear hno hyes hB1 hL hm
  go_wp2
  go_loopw [9] (fun i wr => ∃ (k : Nat), k ≤ m ∧ i = .int .i64 k ∧ Hid (Lib.IsBuilder 57 5 w.heap.size w.heap.size (Lib.strCells (textOf D len (L.take k))) wr ∧ Below w.heap.size w wr ∧ KeepW w.heap.size w1 wr ∧ w1.heap.size ≤ wr.heap.size)) (fun i _ => m - (Go.RowKit.intOf i).toNat)
  case atStart => exact ⟨0, Nat.zero_le _, rfl, HBD.out, HBB.out, fun _ _ _ _ => rfl, Nat.le_refl _⟩
  case round =>
    obtain ⟨k, hk, rfl, HI⟩ := hrel
    by_cases hlt : k < m
    · have hltI : (k : Int) < (m : Int) := by omega
      obtain ⟨b, off, rfl, ⟨cur, hcur⟩, hc⟩ := hcc (by omega)
      obtain ⟨y, hy⟩ : ∃ y, y = L.getD k 0 := ⟨_, rfl⟩
      obtain ⟨c1, x, d, kk, c2⟩ := hc k hlt
      rw [← hy] at c1 c2
      have hbne : ∀ {g : Nat} {cs : Array Value} {t : TypeId}, w1.heap[g]? = some (.cells cs t (0, 0)) → t ≠ 5 → t ≠ 57 → wr.heap[g]? = some (.cells cs t (0, 0)) := fun {g cs t} hg h1 h2 => by
        refine (HI.out.2.2.1 g (lt_of_block hg) (fun e => ?_) (fun cs' fr' e => ?_)).trans hg
        · rw [e] at hg
          have := (HB1.out.block _ (lt_of_block HBL0.out)).trans HBL0.out
          rw [hg] at this
          cases this
          exact h2 rfl
        · rw [hg] at e
          cases e
          exact h1 rfl
      have d1 : wr.cell? ⟨b, off + k, none⟩ = some (.pointer (some ⟨P y, 0, none⟩)) := by
        rw [← c1]
        exact World.cell?_of_block (w := w1) (a := ⟨b, off + k, none⟩) ((hbne hcur (by decide) (by decide)).trans hcur.symm)
      obtain ⟨sy, hsy⟩ : ∃ s, s = sgn D len y := ⟨_, rfl⟩
      have d2 : wr.cell? ⟨P y, 1, none⟩ = some (.string sy) := by rw [hsy]; exact cellN (hbne c2 (by decide) (by decide))
      have HSY : Hid (textOf D len (L.take (k + 1)) = textOf D len (L.take k) ++ sy ∧ sy.size ≤ 40 ∧ (textOf D len (L.take k)).size ≤ 40) := by
        have hkl : k < L.length := by have := HM.out; omega
        refine ⟨by rw [hsy, hy]; exact textOf_take D len L hkl, ?_, (HTL.out k (by omega)).1⟩
        rw [hsy, hy]
        rcases (HTL.out k (by omega)).2 (by omega) with h | h
        · exact h
        · omega
      clear c1 c2 hc hcc hcur hbne hy hsy
      go_wp2_with fail
      refine (write_any w.heap.size w.heap.size _ sy wr HI.out.1 (by rw [Lib.strCells_length]; have := HSY.out; omega) (by have := HI.out.2.1.size; omega)).mono ?_
      rintro e w5 ⟨rfl, hb5, hB5, hK5⟩
      have HR : Hid (Lib.IsBuilder 57 5 w.heap.size w.heap.size (Lib.strCells (textOf D len (L.take (k + 1)))) w5 ∧ Below w.heap.size w w5 ∧ KeepW w.heap.size w1 w5 ∧ w1.heap.size ≤ w5.heap.size) :=
        ⟨by rw [HSY.out.1, strCells_append]; exact .inr hb5, HI.out.2.1.trans hB5, HI.out.2.2.1.trans HI.out.2.2.2 hK5, Nat.le_trans HI.out.2.2.2 hB5.size⟩
      clear HI hb5 hB5 hK5
      go_wp2
      go_roundw
      case rel => exact ⟨k + 1, by omega, by go_num, HR.out⟩
      case measure => simp [Go.RowKit.intOf]; omega
    · have hltI : ¬ (k : Int) < (m : Int) := by omega
      have hkm : k = m := by omega
      subst hkm
      have HEND : Hid (Lib.IsBuilder 57 5 w.heap.size w.heap.size (Lib.byteCells (textR D len).data.toList) wr ∧ Below w.heap.size w wr) := by
        have e : textOf D len (L.take k) = textR D len := by rw [HM.out, List.take_length, HLL.out.1]; rfl
        have := HI.out.1
        rw [e] at this
        exact ⟨this, HI.out.2.1⟩
      clear HI
      go_wp2_with fail
      refine (Try.Builder_String_any w.heap.size w.heap.size (textR D len).data.toList wr HEND.out.1 HEND.out.2.size).mono ?_
      rintro e w6 ⟨rfl, hB6⟩
      have HB6 : Hid (Below w.heap.size w w6) := HEND.out.2.trans hB6
      clear hB6
      go_wp2
      go_ret
      exact ⟨by simp, HB6.out⟩
end Go.Proofs.Ytjfciokpnhnhbaa
