/-
  The specification's lists of members: has, with, without. No condition but that the slices read.
-/
import Derived.Test.YtglnnocfdlachaaEL
import Derived.Deep.Onto
namespace Go.Proofs.Ytglnnocfdlachaa
open Go.RowKit
set_option linter.unusedVariables false

theorem infoI : (Try.prog.info? 2).map (fun i => (i.zero, i.size, i.bytes)) = some (some (.int .i64 0), 1, 8) := by kernel_rfl
/-- a slice of numbers that reads as L -/
def RdI (w : World) (v : Value) (L : List Int) : Prop :=
  ∃ a cap, v = .slice a L.length cap ∧ L.length ≤ cap ∧ cap ≤ 9223372036854775807 ∧ (0 < L.length → ∃ b off, a = some ⟨b, off, none⟩ ∧ b < w.heap.size ∧ ∀ i, i < L.length → w.cell? ⟨b, off + i, none⟩ = some (.int .i64 (L.getD i 0)))
theorem RdI.below {w w' : World} {v : Value} {L : List Int} (h : RdI w v L) (hB : Below w.heap.size w w') : RdI w' v L := by
  obtain ⟨a, cap, rfl, h1, h2, h3⟩ := h
  refine ⟨a, cap, rfl, h1, h2, fun hp => ?_⟩
  obtain ⟨b, off, e, hb, hc⟩ := h3 hp
  exact ⟨b, off, e, Nat.lt_of_lt_of_le hb hB.size, fun i hi => (hB.cell (p := ⟨b, off + i, none⟩) hb).trans (hc i hi)⟩
/-- numbers in memory of the call's own -/
def OwnI (w : World) (base : Nat) (v : Value) (L : List Int) : Prop := w.ownsRow base 2 1 v L.length (L.map (.int .i64 ·))
theorem OwnI.below {w w' : World} {base : Nat} {v : Value} {L : List Int} (h : OwnI w base v L) (hB : Below w.heap.size w w') : OwnI w' base v L := ownsRow_below h hB
theorem OwnI.rd {w : World} {base : Nat} {v : Value} {L : List Int} (h : OwnI w base v L) : RdI w v L := by
  have h' := h
  obtain ⟨h1, h2⟩ := h
  rcases h2 with ⟨rfl, h0⟩ | ⟨g, cap, cur, rfl, hb, hh, hn, hc, hs, ht⟩
  · have hL : L = [] := List.eq_nil_of_length_eq_zero h0
    subst hL
    exact ⟨none, 0, rfl, Nat.le_refl _, by omega, fun h => absurd h (Nat.lt_irrefl _)⟩
  · refine ⟨_, cap, rfl, hn, by unfold maxLen at hc; omega, fun _ => ⟨g, 0, rfl, lt_of_block hh, fun i hi => ?_⟩⟩
    rw [Nat.zero_add, World.ownsRow.cellAt h' i (by omega)]
    simp [hi]
theorem OwnI.base {w : World} {base base' : Nat} {v : Value} {L : List Int} (h : OwnI w base v L) (hb : base' ≤ base) : OwnI w base' v L := World.ownsRow.mono h hb

/-- is it among them? -/
def hasI (L : List Int) (n : Int) : Bool := L.any (· == n)
theorem hasI_yes {L : List Int} {n : Int} {k : Nat} (hk : k < L.length) (h : (L.getD k 0 == n) = true) : hasI L n = true := by
  unfold hasI
  rw [List.any_eq_true]
  refine ⟨L.getD k 0, ?_, h⟩
  simp [hk]
theorem hasI_no {L : List Int} {n : Int} (h : ∀ k, k < L.length → (L.getD k 0 == n) = false) : hasI L n = false := by
  unfold hasI
  rw [List.any_eq_false]
  intro x hx
  obtain ⟨k, hk, rfl⟩ := List.getElem_of_mem hx
  have := h k hk
  simpa [hk] using this

set_option maxHeartbeats 1000000 in
theorem has_any (v : Value) (L : List Int) (n : Int) (w : World) (h : RdI w v L) :
    Calls Try.prog 22 #[v, .int .i64 n] w fun e w' => e = .returned (.bool (hasI L n)) ∧ w' = w := by
  obtain ⟨a, cap, rfl, hlc, hcm, hc⟩ := h
  obtain ⟨m, hm⟩ : ∃ m, m = L.length := ⟨_, rfl⟩
  have HM : Hid (m = L.length) := hm
  rw [← hm] at hlc hc ⊢
  clear hm
  go_enter Try.func22, Try.ntmps22
  go_wp2
  go_loopw [5] (fun i wr => ∃ (k : Nat), k ≤ m ∧ i = .int .i64 k ∧ Hid (∀ j, j < k → (L.getD j 0 == n) = false) ∧ wr = w) (fun i _ => m - (intOf i).toNat)
  case atStart => exact ⟨0, Nat.zero_le _, rfl, fun j hj => absurd hj (Nat.not_lt_zero _), rfl⟩
  case round =>
    obtain ⟨k, hk, rfl, HA, rfl⟩ := hrel
    by_cases hlt : k < m
    · obtain ⟨b, off, rfl, hbs, hcell⟩ := hc (by omega)
      have hck := hcell k hlt
      have hltI : (k : Int) < (m : Int) := by omega
      obtain ⟨y, hy⟩ : ∃ y, y = L.getD k 0 := ⟨_, rfl⟩
      rw [← hy] at hck
      have HY : Hid (y = L.getD k 0) := hy
      clear hy hcell hc
      cases hq : (y == n) with
      | true =>
        have hr : hasI L n = true := hasI_yes (k := k) (by rw [← HM.out]; exact hlt) (by rw [← HY.out]; exact hq)
        go_wp2
        go_ret
        exact ⟨ret_bool hr.symm, rfl⟩
      | false =>
        go_wp2
        go_roundw
        case rel =>
          refine ⟨k + 1, by omega, by go_num, fun j hj => ?_, trivial⟩
          rcases Nat.lt_succ_iff_lt_or_eq.1 hj with h1 | rfl
          · exact HA.out j h1
          · rw [← HY.out]; exact hq
        case measure => simp [intOf]; omega
    · have hke : k = m := by omega
      subst hke
      have hr : hasI L n = false := hasI_no (fun j hj => HA.out j (by rw [HM.out]; exact hj))
      clear hc
      go_wp2
      go_ret
      exact ⟨ret_bool hr.symm, rfl⟩

/-- numbers that rise, with one more, as the specification lays them: of 1 .. k -/
def withTo (L : List Int) (n : Int) : Nat → List Int
  | 0 => []
  | k + 1 => if (((k + 1 : Nat) : Int) == n || hasI L ((k + 1 : Nat) : Int)) = true then withTo L n k ++ [((k + 1 : Nat) : Int)] else withTo L n k
def withL (L : List Int) (n : Int) : List Int := withTo L n 9
theorem withTo_len (L : List Int) (n : Int) : ∀ k, (withTo L n k).length ≤ k
  | 0 => Nat.le_refl _
  | k + 1 => by
    unfold withTo
    have := withTo_len L n k
    split
    · simp; omega
    · omega
theorem withTo_mem (L : List Int) (n x : Int) : ∀ k : Nat, x ∈ withTo L n k ↔ (1 ≤ x ∧ x ≤ k) ∧ (x = n ∨ x ∈ L)
  | 0 => by simp [withTo]; omega
  | k + 1 => by
    have ih := withTo_mem L n x k
    have hh : ∀ z : Int, hasI L z = true ↔ z ∈ L := fun z => by unfold hasI; simp
    unfold withTo
    by_cases hc : (((k + 1 : Nat) : Int) == n || hasI L ((k + 1 : Nat) : Int)) = true
    · rw [if_pos hc]
      rw [Bool.or_eq_true, hh] at hc
      rw [List.mem_append, ih, List.mem_singleton]
      constructor
      · rintro (⟨h1, h2⟩ | rfl)
        · exact ⟨by omega, h2⟩
        · exact ⟨by omega, hc.imp (fun h => by simpa using h) id⟩
      · rintro ⟨h1, h2⟩
        by_cases e : x = ((k + 1 : Nat) : Int)
        · exact .inr e
        · exact .inl ⟨by omega, h2⟩
    · rw [if_neg hc, ih]
      rw [Bool.or_eq_true, hh] at hc
      constructor
      · rintro ⟨h1, h2⟩; exact ⟨by omega, h2⟩
      · rintro ⟨h1, h2⟩
        by_cases e : x = ((k + 1 : Nat) : Int)
        · subst e; exact absurd (h2.imp (fun h => by simpa using h) id) hc
        · exact ⟨by omega, h2⟩
theorem withTo_up (L : List Int) (n : Int) : ∀ k : Nat, (withTo L n k).Pairwise (· < ·)
  | 0 => List.Pairwise.nil
  | k + 1 => by
    unfold withTo
    split
    · refine List.pairwise_append.2 ⟨withTo_up L n k, List.pairwise_singleton _ _, fun a ha b hb => ?_⟩
      have := ((withTo_mem L n a k).1 ha).1
      rw [List.mem_singleton.1 hb]
      omega
    · exact withTo_up L n k

/-- numbers, one left out -/
def withoutTo (L : List Int) (n : Int) (k : Nat) : List Int := (L.take k).filter (fun x => !(x == n))
def withoutL (L : List Int) (n : Int) : List Int := L.filter (fun x => !(x == n))

set_option maxRecDepth 10000 in
set_option maxHeartbeats 2000000 in
theorem with_any (v : Value) (L : List Int) (n : Int) (w : World) (h : RdI w v L) :
    Calls Try.prog 57 #[v, .int .i64 n] w fun e w' => ∃ v', e = .returned v' ∧ OwnI w' w.heap.size v' (withL L n) ∧ Below w.heap.size w w' := by
  obtain ⟨i0, hi, hz0, hz1, hz2⟩ := info_parts infoI
  have HR : Hid (∀ w', Below w.heap.size w w' → ∀ k, Calls Try.prog 22 #[v, .int .i64 k] w' fun e w'' => e = .returned (.bool (hasI L k)) ∧ w'' = w') := fun w' hB k => has_any v L k w' (h.below hB)
  have HB0 : Hid (Below w.heap.size w (w.alloc (.cells #[] 2))) := (Below.refl _ _).alloc (Nat.le_refl _) _
  have HO0 : Hid (OwnI (w.alloc (.cells #[] 2)) w.heap.size (.slice (some ⟨w.heap.size, 0, none⟩) 0 0) []) := World.ownsRow_made w #[] 0 (Nat.le_refl _) (by decide) rfl
  clear h
  go_enter Try.func57, Try.ntmps57
  go_wp2
  go_loopw [5, 6] (fun v' i wr => ∃ (k : Nat) (y : Int), k ≤ 9 ∧ Hid (y = ((k + 1 : Nat) : Int)) ∧ i = .int .i64 y ∧ Hid (OwnI wr w.heap.size v' (withTo L n k)) ∧ Hid (Below w.heap.size w wr)) (fun _ i _ => 10 - (intOf i).toNat)
  case atStart => exact ⟨0, 1, by omega, rfl, rfl, HO0, HB0⟩
  case round =>
    obtain ⟨k, y, hk, HY, rfl, HO, HB⟩ := hrel
    clear HO0 HB0
    have hy : y = (k : Int) + 1 := by rw [HY.out]; omega
    by_cases hlt : k < 9
    · have hltI : y ≤ 9 := by omega
      have hw : IntKind.i64.wrap (y + 1) = y + 1 := by rw [IntKind.wrap_i64]; omega
      have HT : Hid (withTo L n (k + 1) = if (y == n || hasI L y) = true then withTo L n k ++ [y] else withTo L n k) := by rw [HY.out]; exact rfl
      obtain ⟨M, hM⟩ : ∃ M, M = withTo L n k := ⟨_, rfl⟩
      have hMl : M.length ≤ 9 := by rw [hM]; have := withTo_len L n k; omega
      rw [← hM] at HO HT
      clear hM
      obtain ⟨q, hq⟩ : ∃ q, q = M.length := ⟨_, rfl⟩
      have HO' : Hid (wr.ownsRow w.heap.size 2 1 u5 q (M.map (.int .i64 ·))) := by rw [hq]; exact HO.out
      have HQ : Hid (q = M.length ∧ q + 1 ≤ maxLen ∧ (q + 1) * 8 ≤ 140737488355328) := ⟨hq, by unfold maxLen; omega, by omega⟩
      have HK : Hid (k < 9 ∧ y = (k : Int) + 1) := ⟨hlt, hy⟩
      clear hq hMl hy
      cases hyn : (y == n) with
      | true =>
        go_wp2_with (at_builtin; refine wpList_append_own _ rfl _ _ 39 rfl w.heap.size 2 i0 (.int .i64 0) 1 8 Try.underlying39 hi hz0 hz1 hz2 rfl (by decide) _ q _ rfl (HO'.out.alloc _) ⟨wr.heap.size, 0, none⟩ 1 1 [.int .i64 y] rfl rfl (World.news_of_block (heap_alloc_new _ _)) (by simp [Value.oneCell']) HQ.out.2.1 HQ.out.2.2 (by have := HB.out.size; simp; omega) ?_; intro v4 w4 hown4 hgrow4 hnil4)
        have HF : Hid (OwnI w4 w.heap.size v4 (withTo L n (k + 1)) ∧ Below w.heap.size w w4) := by
          refine ⟨?_, (HB.out.alloc HB.out.size _).grown hgrow4 (by have := HB.out.size; simp; omega) (fun x hx => (HO'.out.lt x hx).1)⟩
          unfold OwnI
          rw [HT.out, if_pos (by rw [hyn]; rfl), List.length_append, ← HQ.out.1, List.map_append]
          exact hown4
        clear hown4 hgrow4 hnil4
        go_wp2
        go_roundw
        case rel => exact ⟨k + 1, y + 1, by have := HK.out.1; omega, by show _ = _; have := HK.out.2; omega, rfl, HF.out.1, HF.out.2⟩
        case measure => have := HK.out; simp [intOf]; omega
      | false =>
        go_wp2_with fail
        refine (HR.out wr HB.out y).mono ?_
        rintro e w2 ⟨rfl, hw2⟩
        rw [hw2]; clear hw2 w2
        cases hh : hasI L y with
        | true =>
          go_wp2_with (at_builtin; refine wpList_append_own _ rfl _ _ 39 rfl w.heap.size 2 i0 (.int .i64 0) 1 8 Try.underlying39 hi hz0 hz1 hz2 rfl (by decide) _ q _ rfl (HO'.out.alloc _) ⟨wr.heap.size, 0, none⟩ 1 1 [.int .i64 y] rfl rfl (World.news_of_block (heap_alloc_new _ _)) (by simp [Value.oneCell']) HQ.out.2.1 HQ.out.2.2 (by have := HB.out.size; simp; omega) ?_; intro v4 w4 hown4 hgrow4 hnil4)
          have HF : Hid (OwnI w4 w.heap.size v4 (withTo L n (k + 1)) ∧ Below w.heap.size w w4) := by
            refine ⟨?_, (HB.out.alloc HB.out.size _).grown hgrow4 (by have := HB.out.size; simp; omega) (fun x hx => (HO'.out.lt x hx).1)⟩
            unfold OwnI
            rw [HT.out, if_pos (by rw [hyn, hh]; rfl), List.length_append, ← HQ.out.1, List.map_append]
            exact hown4
          clear hown4 hgrow4 hnil4
          go_wp2
          go_roundw
          case rel => exact ⟨k + 1, y + 1, by have := HK.out.1; omega, by show _ = _; have := HK.out.2; omega, rfl, HF.out.1, HF.out.2⟩
          case measure => have := HK.out; simp [intOf]; omega
        | false =>
          have HF : Hid (OwnI wr w.heap.size u5 (withTo L n (k + 1))) := by
            show OwnI _ _ _ _
            rw [HT.out, if_neg (by rw [hyn, hh]; decide)]
            exact HO.out
          go_wp2
          go_roundw
          case rel => exact ⟨k + 1, y + 1, by have := HK.out.1; omega, by show _ = _; have := HK.out.2; omega, rfl, HF, HB⟩
          case measure => have := HK.out; simp [intOf]; omega
    · have hke : k = 9 := by omega
      have hn9 : decide (y ≤ 9) = false := decide_eq_false (by omega)
      have HF : Hid (OwnI wr w.heap.size u5 (withL L n)) := by rw [hke] at HO; exact HO.out
      clear hy hke hlt hk
      go_wp2
      go_ret
      exact ⟨_, rfl, HF.out, HB.out⟩
end Go.Proofs.Ytglnnocfdlachaa
