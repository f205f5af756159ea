/-
  All tallies in a map. No condition but that the slices read.
-/
import Derived.Test.YtjnngncnfbdpkaaRwT
namespace Go.Proofs.Ytjnngncnfbdpkaa
open Go.RowKit Go.Maps
set_option linter.unusedVariables false

/-- elements of a map, as themselves -/
def VR : Value → Option (DataW Value × List MemPlace) := fun v => some (.held v, [])
theorem lawI : Keyed Try.prog 2 := int_keyed Try.underlying2
theorem zeroT (w : World) : (zeroValue 52).run Try.prog w = .ok (.agg (tlC z9)) w := by kernel_rfl
theorem keyI {z : Int} (hz : (Lit.int .i64 z).wf = true) : keyOf Try.prog 2 (.int .i64 z) = some (.int .i64 z) := keyOf_int_mk Try.underlying2 hz
theorem wf_of {z : Int} (h1 : -9223372036854775808 ≤ z) (h2 : z ≤ 9223372036854775807) : (Lit.int .i64 z).wf = true := by
  have e1 : IntKind.i64.min = -9223372036854775808 := by decide
  have e2 : IntKind.i64.max = 9223372036854775807 := by decide
  simp [Lit.wf, e1, e2]
  omega
/-- the numbers of one -/
def lookR (L : List Rw) (z : Int) : Option (List Int) := (L.find? fun x => x.who == z).map (·.cs)
theorem lookR_snoc (L : List Rw) (y : Rw) (z : Int) (h : ∀ x ∈ L, x.who ≠ y.who) : lookR (L ++ [y]) z = if y.who = z then some y.cs else lookR L z := by
  unfold lookR
  rw [List.find?_append]
  by_cases e : y.who = z
  · have : L.find? (fun x => x.who == z) = none := by
      rw [List.find?_eq_none]
      intro x hx
      have := h x hx
      simp
      omega
    rw [this, if_pos e]
    simp [e]
  · rw [if_neg e]
    simp [e]
/-- block B is a map that holds the tallies of f -/
structure Tb (w : World) (B c : Nat) (E : DataW Value) (f : Int → Option (List Int)) : Prop where
  own : w.ownsMap Try.prog 2 VR B c E
  atk : ∀ z d, E.atKey (.int .i64 z) d = (match f z with | none => d | some cs => .held (.agg (tlC cs)))
  hask : ∀ z, has E (.int .i64 z) = (f z).isSome
theorem Tb.kept {w w' : World} {B c : Nat} {E : DataW Value} {f : Int → Option (List Int)} (h : Tb w B c E f) (he : w'.heap[B]? = w.heap[B]?) : Tb w' B c E f := by
  obtain ⟨es, clock, hb, F, hs, hD⟩ := h.own
  exact ⟨⟨es, clock, he.trans hb, F, hs, hD⟩, h.atk, h.hask⟩
theorem Tb.below {w w' : World} {B c : Nat} {E : DataW Value} {f : Int → Option (List Int)} (h : Tb w B c E f) (hB : Below w.heap.size w w') : Tb w' B c E f := h.kept (hB.block _ h.own.lt)
theorem Tb.new (w : World) : Tb (w.alloc (.map #[] 0)) w.heap.size 0 (.map []) (fun _ => none) :=
  ⟨World.ownsMap_made _ _ _ _, fun _ _ => rfl, fun _ => rfl⟩
theorem Tb.look {w : World} {B c : Nat} {E : DataW Value} {f : Int → Option (List Int)} (h : Tb w B c E f) {z : Int} (hz : (Lit.int .i64 z).wf = true) :
    (Instr.lookup 48 (.map (some B)) (.int .i64 z) false).run Try.prog w = .ok (.agg (tlC ((f z).getD z9))) w := by
  obtain ⟨v, ps, hrun, hv⟩ := h.own.lookup (e := 52) lawI Try.underlying48 (zeroT w) (zd := .held (.agg (tlC z9))) (zp := []) rfl (keyI hz)
  rw [hrun]
  simp only [VR, Option.some.injEq, Prod.mk.injEq] at hv
  rw [h.atk] at hv
  cases hq : f z with
  | none => rw [hq] at hv; have := hv.1; simp only [DataW.held.injEq] at this; rw [this]; rfl
  | some x => rw [hq] at hv; have := hv.1; simp only [DataW.held.injEq] at this; rw [this]; rfl
theorem Tb.put {w w' : World} {B c : Nat} {E : DataW Value} {f : Int → Option (List Int)} {y : Int} {cs : List Int} (h : Tb w B c E f) (how : w'.ownsMap Try.prog 2 VR B (c + 1) (E.put (.int .i64 y) (.held (.agg (tlC cs))))) : Tb w' B (c + 1) (E.put (.int .i64 y) (.held (.agg (tlC cs)))) (fun z => if y = z then some cs else f z) := by
  refine ⟨how, fun z d => ?_, fun z => ?_⟩
  · by_cases e : y = z
    · subst e
      rw [atKey_put_same h.own.isMap (show WideAt.IsKeyLit (.int .i64 y) from trivial), if_pos rfl]
    · rw [atKey_put_other (by intro q; apply e; simpa using q.symm), h.atk, if_neg e]
  · by_cases e : y = z
    · subst e
      rw [has_put_same h.own.isMap (show WideAt.IsKeyLit (.int .i64 y) from trivial), if_pos rfl]
      rfl
    · rw [has_put_other (by intro q; apply e; simpa using q.symm), h.hask, if_neg e]
theorem Tb.of {w : World} {B c : Nat} {E : DataW Value} {f g : Int → Option (List Int)} (h : Tb w B c E f) (e : ∀ z, f z = g z) : Tb w B c E g := by
  have : f = g := funext e
  subst this; exact h

theorem Tb.step {w w' : World} {B k : Nat} {E : DataW Value} {L : List Rw} {y : Rw} {q : Array Value} {R : List Int} (h : Tb w B k E (lookR (L.take k))) (hk : L.take (k + 1) = L.take k ++ [y]) (hne : ∀ x ∈ L.take k, x.who ≠ y.who) (hq : q = tlC R) (hr : R = y.cs)
    (how : w'.ownsMap Try.prog 2 VR B (k + 1) (E.put (.int .i64 y.who) (.held (.agg q)))) : Tb w' B (k + 1) (E.put (.int .i64 y.who) (.held (.agg q))) (lookR (L.take (k + 1))) := by
  subst hr
  subst hq
  refine (h.put how).of fun z => ?_
  rw [hk, lookR_snoc _ _ _ hne]

/-- the who of the row ahead of place k, 0 where there is none -/
def lastW (L : List Rw) : Nat → Int
  | 0 => 0
  | k + 1 => (L.getD k rwZ).who
theorem rows_last {L : List Rw} : ∀ k, allB (okR L) k = true → 0 ≤ lastW L k ∧ lastW L k ≤ 9 ∧ (∀ j, j < k → 1 ≤ (L.getD j rwZ).who ∧ (L.getD j rwZ).who ≤ lastW L k)
  | 0, _ => ⟨Int.le_refl _, by show (0 : Int) ≤ 9; omega, fun j hj => absurd hj (Nat.not_lt_zero _)⟩
  | k + 1, h => by
    rw [allB_succ] at h
    simp only [Bool.and_eq_true] at h
    obtain ⟨h1, h2⟩ := h
    obtain ⟨i1, i2, i3⟩ := rows_last k h1
    unfold okR inB at h2
    simp only [Bool.and_eq_true, decide_eq_true_eq, Bool.or_eq_true, beq_iff_eq] at h2
    obtain ⟨⟨⟨a1, a2⟩, a3⟩, _⟩ := h2
    have hl : lastW L k ≤ (L.getD k rwZ).who := by
      cases k with
      | zero => show (0 : Int) ≤ _; omega
      | succ j =>
        rcases a3 with a3 | a3
        · omega
        · have e : j + 1 - 1 = j := by omega
          rw [e] at a3
          show (L.getD j rwZ).who ≤ _
          omega
    refine ⟨by show (0 : Int) ≤ (L.getD k rwZ).who; omega, a2, fun j hj => ?_⟩
    show 1 ≤ (L.getD j rwZ).who ∧ (L.getD j rwZ).who ≤ (L.getD k rwZ).who
    rcases Nat.lt_succ_iff_lt_or_eq.1 hj with hj | rfl
    · have := i3 j hj; omega
    · omega
theorem okR_is {L : List Rw} {k : Nat} (h : allB (okR L) k = true) : okR L k = (csB (L.getD k rwZ).cs && (decide (lastW L k < (L.getD k rwZ).who) && decide ((L.getD k rwZ).who ≤ 9))) := by
  have hl := rows_last k h
  unfold okR inB
  rw [Bool.and_comm]
  congr 1
  cases k with
  | zero =>
    show ((decide (1 ≤ (L.getD 0 rwZ).who) && decide ((L.getD 0 rwZ).who ≤ 9)) && (true || _)) = (decide ((0 : Int) < (L.getD 0 rwZ).who) && _)
    rw [Bool.true_or, Bool.and_true]
    rfl
  | succ j =>
    show ((decide (1 ≤ (L.getD (j + 1) rwZ).who) && decide ((L.getD (j + 1) rwZ).who ≤ 9)) && (false || decide ((L.getD j rwZ).who < (L.getD (j + 1) rwZ).who))) = (decide ((L.getD j rwZ).who < (L.getD (j + 1) rwZ).who) && _)
    rw [Bool.false_or]
    have hj := (hl.2.2 j (Nat.lt_succ_self _)).1
    by_cases h1 : (L.getD j rwZ).who < (L.getD (j + 1) rwZ).who
    · rw [decide_eq_true h1, decide_eq_true (show 1 ≤ (L.getD (j + 1) rwZ).who by omega)]; simp
    · rw [decide_eq_false h1]; simp

set_option maxRecDepth 10000 in
set_option maxHeartbeats 4000000 in
theorem tallies_any (v : Value) (L : List Rw) (w : World) (h : RdR w v L) (hL : L.length ≤ 1048576) :
    Calls Try.prog 26 #[v] w fun e w' => ((rowsB L = false ∧ e = .returned (.tuple #[.map none, .bool false])) ∨ (rowsB L = true ∧ ∃ E, e = .returned (.tuple #[.map (some w.heap.size), .bool true]) ∧ Tb w' w.heap.size L.length E (lookR L))) ∧ Below w.heap.size w w' := by
  have hmm := @run_makeMap Try.prog
  obtain ⟨a, cap, rfl, hlc, hcm, hc⟩ := h
  obtain ⟨n, hn⟩ : ∃ n, n = L.length := ⟨_, rfl⟩
  have HN : Hid (n = L.length) := hn
  rw [← hn] at hlc hc hL ⊢
  clear hn
  have HT0 : Hid (Tb (w.alloc (.map #[] 0)) w.heap.size 0 (.map []) (lookR (L.take 0))) := (Tb.new w).of fun z => rfl
  have HB0 : Hid (Below w.heap.size w (w.alloc (.map #[] 0))) := (Below.refl _ _).alloc (Nat.le_refl _) _
  go_enter Try.func26, Try.ntmps26
  go_wp2
  go_loopw [5, 13] (fun la i wr => ∃ (k : Nat) (E : DataW Value), k ≤ n ∧ i = .int .i64 k ∧ la = .int .i64 (lastW L k) ∧ Hid (allB (okR L) k = true) ∧ Hid (Tb wr w.heap.size k E (lookR (L.take k))) ∧ Hid (Below w.heap.size w wr)) (fun _ i _ => n - (intOf i).toNat)
  case atStart => exact ⟨0, _, Nat.zero_le _, rfl, rfl, rfl, HT0, HB0⟩
  case round =>
    obtain ⟨k, E, hk, rfl, rfl, HA, HT, HB⟩ := hrel
    by_cases hlt : k < n
    · have hltI : (k : Int) < (n : Int) := by omega
      obtain ⟨b, off, rfl, hbs, hcell⟩ := hc (by omega)
      obtain ⟨c0, u, c1, c2⟩ := hcell k hlt
      have hois := okR_is HA.out
      have hrl := rows_last k HA.out
      have hkl : k < L.length := by rw [← HN.out]; exact hlt
      have htk : L.take (k + 1) = L.take k ++ [L.getD k rwZ] := by rw [List.take_add_one]; simp [hkl]
      have hun : ∀ x ∈ L.take k, x.who ≤ lastW L k := fun x hx => by
        obtain ⟨j, hj, rfl⟩ := List.getElem_of_mem hx
        rw [List.length_take] at hj
        have := (hrl.2.2 j (by omega)).2
        rw [List.getElem_take]
        simpa [show j < L.length by omega] using this
      obtain ⟨y, hy⟩ : ∃ y, y = L.getD k rwZ := ⟨_, rfl⟩
      have hlk1 : lastW L (k + 1) = y.who := by rw [hy]; rfl
      rw [← hy] at c0 c2 hois htk
      obtain ⟨au, cu, hu, _⟩ := c2.shape
      subst hu
      have d0 := (HB.out.cell (p := ⟨b, off + k * 2, none⟩) hbs).trans c0
      have d1 := (HB.out.cell (p := ⟨b, off + k * 2 + 1, none⟩) hbs).trans c1
      obtain ⟨la, hla⟩ : ∃ la, la = lastW L k := ⟨_, rfl⟩
      rw [← hla] at hois hrl hun ⊢
      obtain ⟨hla0, hla9, _⟩ := hrl
      obtain ⟨m, hm⟩ : ∃ m, m = y.cs.length := ⟨_, rfl⟩
      have HU : Hid (RdI (wr.alloc (.cells #[.int .i64 y.who, .slice au m cu] 46)) (.slice au m cu) y.cs) := by rw [hm]; exact (c2.below HB.out).below ((Below.refl _ _).alloc (Nat.le_refl _) _)
      rw [← hm] at d1
      have HBx : Hid (Below w.heap.size w (wr.alloc (.cells #[.int .i64 y.who, .slice au m cu] 46))) := HB.out.alloc HB.out.size _
      have HTx : Hid (Tb (wr.alloc (.cells #[.int .i64 y.who, .slice au m cu] 46)) w.heap.size k E (lookR (L.take k))) := HT.out.below ((Below.refl _ _).alloc (Nat.le_refl _) _)
      have HGx : Hid ((wr.alloc (.cells #[.int .i64 y.who, .slice au m cu] 46)).heap[wr.heap.size]? = some (.cells #[.int .i64 y.who, .slice au m cu] 46)) := heap_alloc_new _ _
      have HOI : Hid (okR L k = (csB y.cs && (decide (la < y.who) && decide (y.who ≤ 9)))) := hois
      have HTK : Hid (L.take (k + 1) = L.take k ++ [y]) := htk
      have HUN : Hid (∀ x ∈ L.take k, x.who ≤ la) := hun
      have HLK : Hid (lastW L (k + 1) = y.who) := hlk1
      clear hcell hc c0 c1 c2 hois htk hun hy hla hm hlk1 HT0 HB0
      go_wp2_with fail
      refine (tallyOf_any (.slice au m cu) y.cs _ HU.out).mono ?_
      rintro e w3 ⟨rfl, hB3⟩
      obtain ⟨R, hR⟩ : ∃ R, R = if csB y.cs = true then y.cs else z9 := ⟨_, rfl⟩
      obtain ⟨ok, hok⟩ : ∃ ok, ok = csB y.cs := ⟨_, rfl⟩
      have HRK : Hid (R = (if csB y.cs = true then y.cs else z9) ∧ ok = csB y.cs) := ⟨hR, hok⟩
      have hR9 : R.length = 9 := by
        rw [hR]
        split
        · rename_i hq
          unfold csB at hq
          simp only [Bool.and_eq_true, decide_eq_true_eq] at hq
          exact hq.1
        · rfl
      rw [← hR, ← hok]
      obtain ⟨q, hq⟩ : ∃ q, q = tlC R := ⟨_, rfl⟩
      have hqs : q.size = 9 := by rw [hq, tlC_size, hR9]
      have hqi : (Try.prog.info? 52).map (·.size) = some q.size := by rw [hqs]; exact infoT
      have hqo : (#[.int .i64 0, .int .i64 0, .int .i64 0, .int .i64 0, .int .i64 0, .int .i64 0, .int .i64 0, .int .i64 0, .int .i64 0] : Array Value).size = q.size := by rw [hqs]; rfl
      have hq1 : q.all (·.oneCell') = true := by rw [hq]; exact tlC_one _
      have HQ : Hid (q = tlC R) := hq
      rw [← hq]
      have HB3 : Hid (Below w.heap.size w w3) := HBx.out.trans (hB3.mono HBx.out.size)
      have HT3 : Hid (Tb w3 w.heap.size k E (lookR (L.take k))) := HTx.out.below hB3
      have HG3 : Hid (w3.heap[wr.heap.size]? = some (.cells #[.int .i64 y.who, .slice au m cu] 46)) := (hB3.block _ (lt_of_block HGx.out)).trans HGx.out
      clear hB3 hR hok hq d0 d1 hR9
      have HOK : Hid (ok = csB y.cs ∧ R = if csB y.cs = true then y.cs else z9) := ⟨HRK.out.2, HRK.out.1⟩
      clear HRK
      cases ok with
      | false =>
        have HR : Hid (rowsB L = false) := rowsB_false (by rw [← HN.out]; exact hlt) (by rw [HOI.out]; rw [← HOK.out.1]; rfl)
        go_wp2_with (first
          | (refine wpList_store_row rfl 52 _ _ rfl w3.heap.size q rfl rfl 52 _ (heap_alloc_new _ _) hqi hqo hq1 ?_
             obtain ⟨W4, hW4⟩ : ∃ W4, W4 = (w3.alloc (.cells #[.int .i64 0, .int .i64 0, .int .i64 0, .int .i64 0, .int .i64 0, .int .i64 0, .int .i64 0, .int .i64 0, .int .i64 0] 52)).setRow w3.heap.size q := ⟨_, rfl⟩
             rw [← hW4]
             have hb4 : Below w3.heap.size w3 W4 := by rw [hW4]; exact below_setRow ((Below.refl _ _).alloc (Nat.le_refl _) _) (Nat.le_refl _) _
             have HQ4 : Hid (W4.heap[w3.heap.size]? = some (.cells q 52)) := by rw [hW4]; exact setRow_heap _ _ _ _ _ _ (heap_alloc_new _ _)
             have HB4 : Hid (Below w.heap.size w W4) := HB3.out.trans (hb4.mono HB3.out.size)
             have HT4 : Hid (Tb W4 w.heap.size k E (lookR (L.take k))) := HT3.out.below hb4
             have g4 := (hb4.block _ (lt_of_block HG3.out)).trans HG3.out
             have e0 : W4.cell? ⟨wr.heap.size, 0, none⟩ = some (.int .i64 y.who) := cellN g4
             clear hW4 hb4 g4))
        go_ret2
        exact ⟨.inl ⟨HR.out, rfl⟩, HB4.out⟩
      | true =>
        have HRy : Hid (R = y.cs) := by show _ = _; rw [HOK.out.2, ← HOK.out.1]; rfl
        by_cases h1 : la < y.who
        · have h1d : decide (y.who ≤ la) = false := decide_eq_false (by omega)
          by_cases h2 : y.who ≤ 9
          · have h2d : decide ((9 : Int) < y.who) = false := decide_eq_false (by omega)
            have hwf : (Lit.int .i64 y.who).wf = true := wf_of (by omega) (by omega)
            have HK' : Hid (allB (okR L) (k + 1) = true) := by show _ = _; rw [allB_succ, HA.out, HOI.out, ← HOK.out.1, decide_eq_true h1, decide_eq_true h2]; rfl
            have HNE : Hid (∀ x ∈ L.take k, x.who ≠ y.who) := fun x hx => by have := HUN.out x hx; omega
            have hml : k < maxLen := by unfold maxLen; omega
            clear h1 h2
            go_wp2_with (first
              | (refine wpList_store_row rfl 52 _ _ rfl w3.heap.size q rfl rfl 52 _ (heap_alloc_new _ _) hqi hqo hq1 ?_
                 obtain ⟨W4, hW4⟩ : ∃ W4, W4 = (w3.alloc (.cells #[.int .i64 0, .int .i64 0, .int .i64 0, .int .i64 0, .int .i64 0, .int .i64 0, .int .i64 0, .int .i64 0, .int .i64 0] 52)).setRow w3.heap.size q := ⟨_, rfl⟩
                 rw [← hW4]
                 have hb4 : Below w3.heap.size w3 W4 := by rw [hW4]; exact below_setRow ((Below.refl _ _).alloc (Nat.le_refl _) _) (Nat.le_refl _) _
                 have HQ4 : Hid (W4.heap[w3.heap.size]? = some (.cells q 52)) := by rw [hW4]; exact setRow_heap _ _ _ _ _ _ (heap_alloc_new _ _)
                 have HB4 : Hid (Below w.heap.size w W4) := HB3.out.trans (hb4.mono HB3.out.size)
                 have HT4 : Hid (Tb W4 w.heap.size k E (lookR (L.take k))) := HT3.out.below hb4
                 have g4 := (hb4.block _ (lt_of_block HG3.out)).trans HG3.out
                 have e0 : W4.cell? ⟨wr.heap.size, 0, none⟩ = some (.int .i64 y.who) := cellN g4
                 clear hW4 hb4 g4)
              | (refine wpList_load_row rfl 52 _ rfl w3.heap.size rfl 52 q _ _ HQ4.out Try.underlying52 rfl hqi ?_)
              | (at_mapUpdate
                 refine wpList_mapUpdate_own _ rfl _ _ _ 48 rfl 2 52 lawI Try.underlying48 VR w.heap.size k E rfl HT4.out.own hml _ _ _ rfl rfl (keyI hwf) (.held (.agg q)) [] rfl ?_
                 intro w5 hown5 hgrow5
                 have HT5 : Hid (Tb w5 w.heap.size (k + 1) (E.put (.int .i64 y.who) (.held (.agg q))) (lookR (L.take (k + 1)))) := HT4.out.step HTK.out HNE.out HQ.out HRy.out hown5
                 have HB5 : Hid (Below w.heap.size w w5) := HB4.out.grown hgrow5 HB4.out.size (fun x hx => by have hx' : some w.heap.size = some x := hx; cases hx'; exact Nat.le_refl _)
                 have e0 : w5.cell? ⟨wr.heap.size, 0, none⟩ = some (.int .i64 y.who) := by
                   have hne : wr.heap.size ≠ w.heap.size := by have := (World.ownsMap.lt HT.out.own); omega
                   have h5 := hgrow5.block wr.heap.size (cell_lt e0) (fun q => hne (Option.some.inj q))
                   simp only [World.cell?, h5]
                   exact e0
                 clear hown5 hgrow5))
            go_roundw
            case rel => exact ⟨k + 1, _, by omega, by go_num, by rw [HLK.out], HK', HT5, HB5⟩
            case measure => simp [intOf]; omega
          · have h2d : decide ((9 : Int) < y.who) = true := decide_eq_true (by omega)
            have HR : Hid (rowsB L = false) := rowsB_false (by rw [← HN.out]; exact hlt) (by rw [HOI.out]; rw [decide_eq_false h2]; simp)
            go_wp2_with (first
              | (refine wpList_store_row rfl 52 _ _ rfl w3.heap.size q rfl rfl 52 _ (heap_alloc_new _ _) hqi hqo hq1 ?_
                 obtain ⟨W4, hW4⟩ : ∃ W4, W4 = (w3.alloc (.cells #[.int .i64 0, .int .i64 0, .int .i64 0, .int .i64 0, .int .i64 0, .int .i64 0, .int .i64 0, .int .i64 0, .int .i64 0] 52)).setRow w3.heap.size q := ⟨_, rfl⟩
                 rw [← hW4]
                 have hb4 : Below w3.heap.size w3 W4 := by rw [hW4]; exact below_setRow ((Below.refl _ _).alloc (Nat.le_refl _) _) (Nat.le_refl _) _
                 have HQ4 : Hid (W4.heap[w3.heap.size]? = some (.cells q 52)) := by rw [hW4]; exact setRow_heap _ _ _ _ _ _ (heap_alloc_new _ _)
                 have HB4 : Hid (Below w.heap.size w W4) := HB3.out.trans (hb4.mono HB3.out.size)
                 have HT4 : Hid (Tb W4 w.heap.size k E (lookR (L.take k))) := HT3.out.below hb4
                 have g4 := (hb4.block _ (lt_of_block HG3.out)).trans HG3.out
                 have e0 : W4.cell? ⟨wr.heap.size, 0, none⟩ = some (.int .i64 y.who) := cellN g4
                 clear hW4 hb4 g4))
            go_ret2
            exact ⟨.inl ⟨HR.out, rfl⟩, HB4.out⟩
        · have h1d : decide (y.who ≤ la) = true := decide_eq_true (by omega)
          have HR : Hid (rowsB L = false) := rowsB_false (by rw [← HN.out]; exact hlt) (by rw [HOI.out]; rw [decide_eq_false h1]; simp)
          go_wp2_with (first
            | (refine wpList_store_row rfl 52 _ _ rfl w3.heap.size q rfl rfl 52 _ (heap_alloc_new _ _) hqi hqo hq1 ?_
               obtain ⟨W4, hW4⟩ : ∃ W4, W4 = (w3.alloc (.cells #[.int .i64 0, .int .i64 0, .int .i64 0, .int .i64 0, .int .i64 0, .int .i64 0, .int .i64 0, .int .i64 0, .int .i64 0] 52)).setRow w3.heap.size q := ⟨_, rfl⟩
               rw [← hW4]
               have hb4 : Below w3.heap.size w3 W4 := by rw [hW4]; exact below_setRow ((Below.refl _ _).alloc (Nat.le_refl _) _) (Nat.le_refl _) _
               have HQ4 : Hid (W4.heap[w3.heap.size]? = some (.cells q 52)) := by rw [hW4]; exact setRow_heap _ _ _ _ _ _ (heap_alloc_new _ _)
               have HB4 : Hid (Below w.heap.size w W4) := HB3.out.trans (hb4.mono HB3.out.size)
               have HT4 : Hid (Tb W4 w.heap.size k E (lookR (L.take k))) := HT3.out.below hb4
               have g4 := (hb4.block _ (lt_of_block HG3.out)).trans HG3.out
               have e0 : W4.cell? ⟨wr.heap.size, 0, none⟩ = some (.int .i64 y.who) := cellN g4
               clear hW4 hb4 g4))
          go_ret2
          exact ⟨.inl ⟨HR.out, rfl⟩, HB4.out⟩
    · have hke : k = n := by omega
      subst hke
      have HR : Hid (rowsB L = true) := by show _ = _; unfold rowsB; rw [← HN.out]; exact HA.out
      have HTF : Hid (Tb wr w.heap.size k E (lookR L)) := by
        have := HT.out
        rw [HN.out, List.take_length] at this
        rw [HN.out]
        exact this
      clear hc
      go_wp2
      go_ret2
      exact ⟨.inr ⟨HR.out, E, rfl, HTF.out⟩, HB.out⟩
end Go.Proofs.Ytjnngncnfbdpkaa
