/-
  The program's SeqIds. No condition but that the slice reads.
-/
import Derived.Test.YtjfciokpnhnhbaaSqH
import Derived.Test.YtjfciokpnhnhbaaIL
namespace Go.Proofs.Ytjfciokpnhnhbaa
open Go.RowKit
set_option linter.unusedVariables false

theorem infoI6 : (Try.prog.info? 2).map (fun i => (i.zero, i.size, i.bytes)) = some (some (.int .i64 0), 1, 8) := by kernel_rfl
theorem OwnI.nil0 (w : World) (base : Nat) : OwnI w base (.slice none 0 0) [] := ⟨rfl, .inl ⟨rfl, rfl⟩⟩
theorem OwnI.base0 {w : World} {base base' : Nat} {v : Value} {L : List Int} (h : OwnI w base v L) (hb : base' ≤ base) : OwnI w base' v L := row_base h hb
theorem take_snocI (L : List Int) {k : Nat} (h : k < L.length) : L.take (k + 1) = L.take k ++ [L.getD k 0] := by
  rw [List.take_add_one, List.getElem?_eq_getElem h]
  simp [List.getD, h]

set_option maxRecDepth 10000 in
set_option maxHeartbeats 4000000 in
theorem implIds_any (a : Option Addr) (len cap : Nat) (D : Nat → Ev) (w : World) (h : IsEvs w a len cap D) (hF : ∀ i, i < len → (D i).in) :
    Calls Try.prog 16 #[.slice a len cap] w fun e w' => ∃ v, e = .returned v ∧ OwnI w' w.heap.size v (idsR D len) ∧ Below w.heap.size w w' := by
  obtain ⟨i0, hi, hz0, hz1, hz2⟩ := info_parts infoI6
  go_enter Try.func16, Try.ntmps16
  go_wp2_with fail
  refine (shown_any a len cap D w h hF).mono ?_
  rintro e w1 ⟨v, P, S, rfl, hB1, hno, hyes⟩
  have HB1 : Hid (Below w.heap.size w w1) := hB1
  obtain ⟨L, hL⟩ : ∃ L, L = idsR D len := ⟨_, rfl⟩
  have hrow : ∃ va vc, v = .slice va L.length vc ∧ (0 < L.length → ∃ b off, va = some ⟨b, off, none⟩ ∧ b < w1.heap.size ∧ ∀ j, j < L.length → w1.cell? ⟨b, off + j, none⟩ = some (.pointer (some ⟨P (L.getD j 0), 0, none⟩)) ∧ P (L.getD j 0) < w1.heap.size ∧ w1.cell? ⟨P (L.getD j 0), 0, none⟩ = some (.int .i64 (L.getD j 0))) := by
    cases hs : seqB D len with
    | false =>
      rw [hL, idsR_no hs]
      exact ⟨none, 0, hno hs, fun hp => absurd hp (Nat.lt_irrefl _)⟩
    | true =>
      obtain ⟨s1, s2, s3⟩ := hyes hs
      have e : L = idsL D len := by rw [hL, idsR_yes hs]
      rw [← e] at s1 s2
      have s1' : w1.ownsRow w.heap.size 60 1 v (L.map fun y => ptr (P y)).length (L.map fun y => ptr (P y)) := by rw [List.length_map]; exact s1
      obtain ⟨va, vc, ev, hc⟩ := row_rdp s1'
      rw [List.length_map] at ev hc
      refine ⟨va, vc, ev, fun hp => ?_⟩
      obtain ⟨b, off, ea, hb, hcc⟩ := hc hp
      refine ⟨b, off, ea, hb, fun j hj => ?_⟩
      have hm : L.getD j 0 ∈ L := by simp [List.getD, hj]
      obtain ⟨d, k, hn⟩ := s2 _ hm
      refine ⟨hcc j _ ?_, lt_of_block hn, cellN hn⟩
      rw [List.getElem?_map, List.getElem?_eq_getElem hj]
      simp [List.getD, hj, ptr]
  have HLL : Hid (L = idsR D len ∧ L.length ≤ 40) := ⟨hL, by rw [hL]; exact idsR_len D len⟩
  obtain ⟨va, vc, rfl, hcc⟩ := hrow
  obtain ⟨m, hm⟩ : ∃ m, m = L.length := ⟨_, rfl⟩
  rw [← hm] at hcc ⊢
  have HM : Hid (m = L.length) := hm
  have hm40 : m ≤ 40 := by have := HLL.out.2; omega
  clear hno hyes hB1 hL hm h hF
  go_wp2
  go_loopw [3, 9] (fun u i wr => ∃ (k : Nat) (v : Value), k ≤ m ∧ i = .int .i64 k ∧ v = u ∧ Hid (OwnI wr w1.heap.size v (L.take k) ∧ Below w1.heap.size w1 wr)) (fun _ i _ => m - (Go.RowKit.intOf i).toNat)
  case atStart => exact ⟨0, _, Nat.zero_le _, rfl, rfl, OwnI.nil0 _ _, Below.refl _ _⟩
  case round =>
    obtain ⟨k, v, hk, rfl, rfl, HI⟩ := hrel
    by_cases hlt : k < m
    · have hltI : (k : Int) < (m : Int) := by omega
      obtain ⟨b, off, rfl, hb, hc⟩ := hcc (by omega)
      obtain ⟨y, hy⟩ : ∃ y, y = L.getD k 0 := ⟨_, rfl⟩
      obtain ⟨c1, c2, c3⟩ := hc k hlt
      rw [← hy] at c1 c2 c3
      have d1 : wr.cell? ⟨b, off + k, none⟩ = some (.pointer (some ⟨P y, 0, none⟩)) := (HI.out.2.cell (p := ⟨b, off + k, none⟩) hb).trans c1
      have d2 : wr.cell? ⟨P y, 0, none⟩ = some (.int .i64 y) := (HI.out.2.cell (p := ⟨P y, 0, none⟩) c2).trans c3
      have hBo : Below wr.heap.size wr (wr.alloc (.cells #[.int .i64 y] 2)) := (Below.refl _ _).alloc (Nat.le_refl _) _
      have htl : (L.take k).length = k := by rw [List.length_take]; have := HM.out; omega
      have HOW : Hid ((wr.alloc (.cells #[.int .i64 y] 2)).ownsRow w1.heap.size 2 1 v k ((L.take k).map (.int .i64 ·))) := by
        have := HI.out.1.below hBo
        unfold OwnI at this
        rw [htl] at this
        exact this
      have HNW : Hid (∀ j v, ([Value.int .i64 y] : List Value)[j]? = some v → (wr.alloc (.cells #[.int .i64 y] 2)).cell? ((⟨wr.heap.size, 0, none⟩ : Addr).add j) = some v) := by
        show ∀ j v, _
        have := World.news_of_block (heap_alloc_new wr (.cells #[.int .i64 y] 2))
        simpa using this
      have HMX9 : Hid (k + 1 ≤ maxLen ∧ (k + 1) * 8 ≤ 140737488355328 ∧ w1.heap.size ≤ (wr.alloc (.cells #[.int .i64 y] 2)).heap.size) := ⟨by unfold maxLen; omega, by omega, by have := HI.out.2.size; simp; omega⟩
      have HFIN : Hid (∀ v7 w7, w7.ownsRow w1.heap.size 2 1 v7 (k + 1) ((L.take k).map (.int .i64 ·) ++ [.int .i64 y]) → (wr.alloc (.cells #[.int .i64 y] 2)).grownBy w7 v.ownBlock → OwnI w7 w1.heap.size v7 (L.take (k + 1)) ∧ Below w1.heap.size w1 w7) := fun v7 w7 hown hgrow => by
        refine ⟨?_, ?_⟩
        · unfold OwnI
          rw [take_snocI L (by have := HM.out; omega), List.map_append, List.length_append, htl, ← hy]
          exact hown
        · have hb := HI.out.2.alloc HI.out.2.size (.cells #[.int .i64 y] 2)
          exact hb.grown hgrow hb.size (fun x hx => (World.ownsRow.lt HI.out.1 x hx).1)
      clear hBo htl c1 c2 c3 hc hcc hy
      go_wp2_with (
        at_builtin
        refine wpList_append_own _ rfl _ _ 37 rfl w1.heap.size 2 i0 (.int .i64 0) 1 8 Try.underlying37 hi hz0 hz1 hz2 rfl (by decide) v k _ rfl HOW.out ⟨wr.heap.size, 0, none⟩ 1 1 [.int .i64 y] rfl rfl HNW.out (by simp [Value.oneCell']) HMX9.out.1 HMX9.out.2.1 HMX9.out.2.2 ?_
        intro v7 w7 hown7 hgrow7 hnil7
        have HE := (show Hid _ from HFIN.out v7 w7 hown7 hgrow7)
        clear hown7 hgrow7 hnil7)
      exact ⟨⟨k + 1, _, by omega, by simp, rfl, HE.out.1, HE.out.2⟩, by simp [Go.RowKit.intOf]; omega⟩
    · have hltI : ¬ (k : Int) < (m : Int) := by omega
      have hkm : k = m := by omega
      subst hkm
      have HE : Hid (OwnI wr w.heap.size v (idsR D len) ∧ Below w.heap.size w wr) := by
        have e : L.take k = idsR D len := by rw [HM.out, List.take_length]; exact HLL.out.1
        have := HI.out.1
        rw [e] at this
        exact ⟨this.base0 HB1.out.size, HB1.out.trans (HI.out.2.mono HB1.out.size)⟩
      clear HI
      go_wp2
      go_ret
      exact ⟨_, rfl, HE.out.1, HE.out.2⟩
end Go.Proofs.Ytjfciokpnhnhbaa
