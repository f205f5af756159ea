/-
  Both tests of a box answer the same plain test. Conditions: the text is not huge; the variable errNoBox holds a pointer.
-/
import Derived.Test.YtcolcnkjcagbaaaDoorBxI
import Derived.Test.YtcolcnkjcagbaaaDoorBxD
namespace Go.Proofs.YtcolcnkjcagbaaaDoor
open Go.RowKit
set_option linter.unusedVariables false

/-- a box is right -/
def okB (key : Int) (s : ByteArray) : Bool := rangeB key && anyI key s 61

theorem toL_inj {a b : ByteArray} (h : a.toList = b.toList) : a = b := by
  apply ba_ext
  rw [← Lib.toList_data, ← Lib.toList_data, h]
theorem okB_iff (key : Int) (s : ByteArray) : okB key s = true ↔ ∃ n, n ≤ 60 ∧ 100 ≤ key ∧ key ≤ 199 ∧ s = (boxTr key.toNat n).txt := by
  unfold okB rangeB anyI
  rw [Bool.and_eq_true, Bool.and_eq_true, List.any_eq_true, decide_eq_true_eq, decide_eq_true_eq]
  constructor
  · rintro ⟨⟨h1, h2⟩, n, hn, he⟩
    have h3 : s = boxI key n := toL_inj (by simpa using he)
    exact ⟨n, by have := List.mem_range.1 hn; omega, h1, h2, by rw [h3, boxI_txt (by omega)]⟩
  · rintro ⟨n, hn, h1, h2, h3⟩
    refine ⟨⟨h1, h2⟩, n, List.mem_range.2 (by omega), ?_⟩
    rw [boxI_txt (by omega), h3]
    simp
theorem box_ok {K n : Nat} (hK : K ≤ 199) (hn : n ≤ 60) : rT (boxTr K n).txt = some (boxTr K n).val :=
  rT_txt ⟨.inl rfl, by omega, .inl rfl, by omega⟩ (by show 1 + 1 ≤ 40; omega) (by show 1 + 1 ≤ 10; omega)
theorem val_if (t : Tr) : ∃ U y, t.val = .iface U y ∧ ((∀ j m, t ≠ ⟨.inl (j, m)⟩) → U ≠ 77) ∧ ((∀ k n u, t ≠ ⟨.inr (.inr (.inr (k, n, u)))⟩) → U ≠ 71) := by
  match t with
  | ⟨.inl (k, n)⟩ => exact ⟨_, _, by rw [Tr.val], fun h => absurd rfl (h k n), fun _ => by decide⟩
  | ⟨.inr (.inl t)⟩ => exact ⟨_, _, by rw [Tr.val], fun _ => by decide, fun _ => by decide⟩
  | ⟨.inr (.inr (.inl (t, u)))⟩ => exact ⟨_, _, by rw [Tr.val], fun _ => by decide, fun _ => by decide⟩
  | ⟨.inr (.inr (.inr (k, n, t)))⟩ => exact ⟨_, _, by rw [Tr.val], fun _ => by decide, fun h => absurd rfl (h k n t)⟩

def BodyC (key : Int) (s : ByteArray) (b : Addr) (w : World) : Prop := ∃ r : Option Nat, r.isSome = okB key s ∧ (∀ n, r = some n → n ≤ 60 ∧ 0 ≤ key ∧ key ≤ 199 ∧ s = (boxTr key.toNat n).txt) ∧ Calls Tryd.prog 24 #[.agg #[.int .i64 key, .string s]] w fun e w' => e = .returned (bodyV key b r) ∧ Below w.heap.size w w'
theorem bodyOf_any (key : Int) (s : ByteArray) (b : Addr) (w : World) (hs : s.size ≤ 1048576) (hG : w.cell? ⟨0, 0, none⟩ = some (.iface 133 (.pointer (some b)))) (h0 : 0 < w.heap.size) : BodyC key s b w := by
  by_cases hq : okB key s = true
  · obtain ⟨n, hn, h1, h2, rfl⟩ := (okB_iff key s).1 hq
    have hr := box_ok (K := key.toNat) (n := n) (by omega) hn
    refine ⟨some n, by rw [hq]; rfl, fun m e => (by cases e; exact ⟨hn, by omega, h2, rfl⟩), body_yes key _ b w hs hG h0 6 key.toNat (by omega) (by omega) 1 n (by omega) (by omega) rfl (by omega) (by simp; omega) rfl hn (c := true) ?_⟩
    rw [hr]
    unfold tup2 boxTr
    rw [Tr.val, Tr.val]
  · have hq' : okB key s = false := by simpa using hq
    refine ⟨none, by rw [hq']; rfl, fun m e => (by cases e), ?_⟩
    cases hrt : rT s with
    | none => exact body_none key s b w hs hG h0 (c := false) (by rw [hrt]; rfl)
    | some v =>
      obtain ⟨t, _, hok, _, htx, rfl⟩ := rT_tr hrt
      by_cases hk : ∃ k n u, t = ⟨.inr (.inr (.inr (k, n, u)))⟩
      · obtain ⟨k, n, u, rfl⟩ := hk
        obtain ⟨hk67, hn9, hou⟩ := hok
        obtain ⟨U, y, hu, hul, _⟩ := val_if u
        have hv : tup2 (rT s) = .tuple #[.iface 71 (.agg #[.int .i64 k, .int .i64 n, .iface U y]), .bool true] := by
          rw [hrt]
          unfold tup2
          rw [Tr.val, hu]
        by_cases h6 : k = 6
        · by_cases hnk : (n : Int) = key
          · cases hf : (decide (100 ≤ key) && decide (key ≤ 199)) with
            | false => exact body_far key s b w hs hG h0 k n U y (by omega) hn9 h6 hnk hf hv
            | true =>
              by_cases hl : ∃ j m, u = ⟨.inl (j, m)⟩
              · obtain ⟨j, m, rfl⟩ := hl
                obtain ⟨hj3, hm9⟩ := hou
                have hv2 : tup2 (rT s) = .tuple #[.iface 71 (.agg #[.int .i64 k, .int .i64 n, .iface 77 (.agg #[.int .i64 j, .int .i64 m])]), .bool true] := by
                  rw [hrt]
                  unfold tup2
                  rw [Tr.val, Tr.val]
                by_cases hj : j = 1
                · by_cases hm : 60 < m
                  · exact body_high key s b w hs hG h0 k n (by omega) hn9 j m (by omega) hm9 h6 hnk hf hj hm hv2
                  · exfalso
                    apply hq
                    rw [Bool.and_eq_true, decide_eq_true_eq, decide_eq_true_eq] at hf
                    refine (okB_iff key s).2 ⟨m, by omega, hf.1, hf.2, ?_⟩
                    rw [← htx, h6, hj]
                    unfold boxTr
                    rw [show key.toNat = n by omega]
                · exact body_leaf key s b w hs hG h0 k n (by omega) hn9 j m (by omega) hm9 h6 hnk hf hj hv2
              · exact body_of key s b w hs hG h0 k n U y (by omega) hn9 (hul (fun j m e => hl ⟨j, m, e⟩)) h6 hnk hf hv
          · exact body_key key s b w hs hG h0 k n U y (by omega) hn9 h6 hnk hv
        · exact body_kind key s b w hs hG h0 k n U y (by omega) hn9 h6 hv
      · obtain ⟨U, y, hu, _, huk⟩ := val_if t
        exact body_not key s b w hs hG h0 U y (huk (fun k n u e => hk ⟨k, n, u, e⟩)) (c := true) (by rw [hrt]; unfold tup2; rw [hu])

theorem implBoxOk_any (key : Int) (s : ByteArray) (b : Addr) (w : World) (hs : s.size ≤ 1048576) (hG : w.cell? ⟨0, 0, none⟩ = some (.iface 133 (.pointer (some b)))) (h0 : 0 < w.heap.size) :
    Calls Tryd.prog 9 #[.agg #[.int .i64 key, .string s]] w fun e w' => e = .returned (.bool (okB key s)) ∧ Below w.heap.size w w' := by
  have hB0 : Below w.heap.size w (w.alloc (.cells #[.int .i64 key, .string s] 26)) := (Below.refl _ _).alloc (Nat.le_refl _) _
  have hG' : (w.alloc (.cells #[.int .i64 key, .string s] 26)).cell? ⟨0, 0, none⟩ = some (.iface 133 (.pointer (some b))) := (hB0.cell (p := ⟨0, 0, none⟩) h0).trans hG
  have h0' : 0 < (w.alloc (.cells #[.int .i64 key, .string s] 26)).heap.size := Nat.lt_of_lt_of_le h0 hB0.size
  obtain ⟨r, hr, _, HC⟩ := bodyOf_any key s b _ hs hG' h0'
  have HG := (show Hid _ from hG')
  have H0 := (show Hid _ from h0')
  have HB0 := (show Hid _ from hB0)
  clear hG h0 hs hG' h0' hB0
  go_enter Tryd.func9, Tryd.ntmps9
  go_wp2_with fail
  refine HC.mono ?_
  rintro e w1 ⟨rfl, hB1⟩
  have g1 : w1.cell? ⟨0, 0, none⟩ = some (.iface 133 (.pointer (some b))) := (hB1.cell (p := ⟨0, 0, none⟩) H0.out).trans HG.out
  have z1 : 0 < w1.heap.size := Nat.lt_of_lt_of_le H0.out hB1.size
  cases r with
  | some m =>
    have HH := heldNil_any b w1 g1 z1
    unfold bodyV
    clear g1 z1
    go_wp2_with fail
    refine HH.mono ?_
    rintro e w2 ⟨rfl, hB2⟩
    go_wp2
    go_ret
    exact ⟨by rw [← hr]; rfl, HB0.out.trans ((hB1.trans (hB2.mono hB1.size)).mono HB0.out.size)⟩
  | none =>
    have HH := heldBox_any key b w1 g1 z1
    unfold bodyV refusal
    clear g1 z1
    go_wp2_with fail
    refine HH.mono ?_
    rintro e w2 ⟨rfl, hB2⟩
    go_wp2
    go_ret
    exact ⟨by rw [← hr]; rfl, HB0.out.trans ((hB1.trans (hB2.mono hB1.size)).mono HB0.out.size)⟩

theorem specBoxOk_any (key : Int) (s : ByteArray) (h1 : -9223372036854775808 ≤ key) (h2 : key ≤ 9223372036854775807) (w : World) :
    Calls Tryd.prog 7 #[.agg #[.int .i64 key, .string s]] w fun e w' => e = .returned (.bool (okB key s)) ∧ Below w.heap.size w w' := by
  have HB0 : Hid (Below w.heap.size w (w.alloc (.cells #[.int .i64 key, .string s] 26))) := (Below.refl _ _).alloc (Nat.le_refl _) _
  have HX : Hid ((w.alloc (.cells #[.int .i64 key, .string s] 26)).heap[w.heap.size]? = some (.cells #[.int .i64 key, .string s] 26 (0, 0))) := heap_alloc_new w _
  have HL : Hid (∀ w, Calls Tryd.prog 22 #[.agg #[.int .i64 key, .string s]] w fun e w' => ∃ x, e = .returned (.tuple #[.int .i64 x, .bool (anyI key s 61)]) ∧ Below w.heap.size w w') := fun w => l12Body_any key s h1 h2 w
  obtain ⟨c, hc⟩ : ∃ c, c = anyI key s 61 := ⟨_, rfl⟩
  obtain ⟨r, hr⟩ : ∃ r, r = inB key 100 199 := ⟨_, rfl⟩
  have HOK : Hid (okB key s = (r && c)) := by
    show _ = _
    unfold okB rangeB
    rw [hr, hc]
    unfold inB
    rfl
  rw [← hc] at HL
  have HI : Hid (∀ w, Calls Tryd.prog 23 #[.int .i64 key, .int .i64 100, .int .i64 199] w fun e w' => e = .returned (.bool r) ∧ w' = w) := fun w => by rw [hr]; exact l1In_any key 100 199 w
  clear hc hr h1 h2
  go_enter Tryd.func7, Tryd.ntmps7
  go_wp2_with fail
  refine (HL.out _).mono ?_
  rintro e w1 ⟨x, rfl, hB1⟩
  have HB1 := HB0.out.trans (hB1.mono HB0.out.size)
  have c0 : w1.cell? ⟨w.heap.size, 0, none⟩ = some (.int .i64 key) := cell_of_row w1 _ 0 _ _ _ ((hB1.block _ (lt_of_block HX.out)).trans HX.out)
  clear hB1
  go_wp2_with fail
  refine (HI.out _).mono ?_
  rintro e w2 ⟨rfl, hw⟩
  rw [hw]
  clear hw w2
  cases r with
  | false =>
    go_wp2
    go_ret
    exact ⟨by rw [HOK.out]; rfl, HB1⟩
  | true =>
    go_wp2
    go_ret
    exact ⟨by rw [HOK.out]; rfl, HB1⟩

theorem szBox_any (key : Int) (s : ByteArray) (hs : s.size ≤ 9223372036854775807) (w : World) :
    Calls Tryd.prog 6 #[.agg #[.int .i64 key, .string s], .int .i64 1048576] w fun e w' => ∃ r : Int, e = .returned (.int .i64 r) ∧ Hid (r < 0 ∨ 0 ≤ r ∧ s.size ≤ 1048576) ∧ Below w.heap.size w w' := by
  by_cases h : s.size ≤ 1048576
  · have hI : ¬ ((1048576 : Int) - (s.size : Int) < 0) := by omega
    have HH : Hid ((1048576 : Int) - s.size < 0 ∨ 0 ≤ (1048576 : Int) - s.size ∧ s.size ≤ 1048576) := .inr ⟨by omega, h⟩
    clear h
    go_enter Tryd.func6, Tryd.ntmps6
    go_wp2
    go_ret
    exact ⟨_, rfl, HH, (Below.refl _ _).alloc (Nat.le_refl _) _⟩
  · have hI : ((1048576 : Int) - (s.size : Int) < 0) := by omega
    have HH : Hid ((-1 : Int) < 0 ∨ 0 ≤ (-1 : Int) ∧ s.size ≤ 1048576) := .inl (by omega)
    clear h
    go_enter Tryd.func6, Tryd.ntmps6
    go_wp2
    go_ret
    exact ⟨_, rfl, HH, (Below.refl _ _).alloc (Nat.le_refl _) _⟩
theorem toBox_any (key : Int) (s : ByteArray) (w : World) :
    Calls Tryd.prog 8 #[.agg #[.int .i64 key, .string s]] w fun e w' => e = .returned (.agg #[.int .i64 key, .string s]) ∧ Below w.heap.size w w' := by
  go_enter Tryd.func8, Tryd.ntmps8
  go_wp2
  have hz : ((w.alloc (.cells #[.int .i64 key, .string s] 23)).alloc (.cells #[.int .i64 key, .string s] 26)).heap[w.heap.size + 1]? = some (.cells #[.int .i64 key, .string s] 26 (0, 0)) := by
    have := heap_alloc_new (w.alloc (.cells #[.int .i64 key, .string s] 23)) (.cells #[.int .i64 key, .string s] 26)
    simpa using this
  have hz2 := (Below.heap_alloc ((w.alloc (.cells #[.int .i64 key, .string s] 23)).alloc (.cells #[.int .i64 key, .string s] 26)) (.cells #[.int .i64 key, .string s] 26) _ (lt_of_block hz)).trans hz
  exact bodyPost_ret (v := .agg #[.int .i64 key, .string s]) (results_cell_row rfl _ _ (w.heap.size + 1) 26 _ _ _ rfl hz2 Tryd.underlying26 rfl (by kernel_rfl)) rfl ⟨rfl, (((Below.refl _ _).alloc (Nat.le_refl _) _).alloc (by simp) _).alloc (by simp; omega) _⟩
end Go.Proofs.YtcolcnkjcagbaaaDoor
