/-
  The library's leaving out of equal neighbours in a slice of elements that the call owns. No condition but that the slice is short.
-/
import Derived.Test.YtglnnocfdlachaaESort
import Derived.Test.YtglnnocfdlachaaEEq
import Derived.Lib.SliceRun
namespace Go.Proofs.Ytglnnocfdlachaa
open Go.RowKit
set_option linter.unusedVariables false

/-- the element at place i is not as the one ahead of it -/
def keepAt (L : List Ev) (i : Nat) : Bool := i == 0 || !(Ev.same (L.getD i evZ) (L.getD (i - 1) evZ))
/-- of the first n elements those that are not as the one ahead of them -/
def cptTo (L : List Ev) (n : Nat) : List Ev := ((List.range n).filter (keepAt L)).map fun i => L.getD i evZ
def cptL (L : List Ev) : List Ev := cptTo L L.length
theorem cptTo_yes {L : List Ev} {n : Nat} (h : keepAt L n = true) : cptTo L (n + 1) = cptTo L n ++ [L.getD n evZ] := by
  unfold cptTo
  rw [List.range_succ, List.filter_append, List.map_append]
  simp [h]
theorem cptTo_no {L : List Ev} {n : Nat} (h : keepAt L n = false) : cptTo L (n + 1) = cptTo L n := by
  unfold cptTo
  rw [List.range_succ, List.filter_append, List.map_append]
  simp [h]
theorem take_succ {L : List Ev} {n : Nat} (h : n < L.length) : L.take (n + 1) = L.take n ++ [L.getD n evZ] := by
  rw [List.take_add_one]
  simp [h]
theorem cptTo_all {L : List Ev} : ∀ n, n ≤ L.length → (∀ j, j < n → keepAt L j = true) → cptTo L n = L.take n
  | 0, _, _ => rfl
  | n + 1, hn, h => by
    rw [cptTo_yes (h n (by omega)), cptTo_all n (by omega) (fun j hj => h j (by omega)), take_succ (by omega)]
theorem cptTo_len (L : List Ev) (n : Nat) : (cptTo L n).length ≤ n := by
  unfold cptTo
  rw [List.length_map]
  exact Nat.le_trans (List.length_filter_le _ _) (by simp)

theorem evs_lies {w : World} {base g n cap : Nat} {L : List Ev} (h : w.ownsRow base 30 4 (.slice (some ⟨g, 0, none⟩) n cap) n (cellsL L)) (hn : n = L.length) : ∀ i, i < n → EvAt w g (i * 4) (L.getD i evZ) := by
  subst hn
  intro i hi
  have := (OwnE.lies (show OwnE w base g cap L from h)).1 i hi
  rw [Nat.zero_add] at this
  exact this
theorem cellsL_set (L : List Ev) (k : Nat) (x : Ev) (h : k < L.length) :
    ((((cellsL L).set (k * 4) (.int .i64 x.a)).set (k * 4 + 1) (.int .i64 x.b)).set (k * 4 + 2) (.int .i64 x.c)).set (k * 4 + 3) (.int .i64 x.d) = cellsL (L.set k x) := by
  have hcl := cellsL_len L
  apply List.ext_getElem?
  intro j
  by_cases hj : j < L.length * 4
  · obtain ⟨i, t, ht, rfl⟩ : ∃ i t, t < 4 ∧ j = i * 4 + t := ⟨j / 4, j % 4, Nat.mod_lt _ (by decide), by omega⟩
    rw [cellsL_at (L.set k x) i t ht (by rw [List.length_set]; omega)]
    by_cases hik : i = k
    · subst hik
      have e : (L.set i x).getD i evZ = x := by simp [List.getD_eq_getElem?_getD, h]
      rw [e]
      rcases t with _ | _ | _ | _ | t
      · rw [List.getElem?_set_ne (by omega), List.getElem?_set_ne (by omega), List.getElem?_set_ne (by omega), Nat.add_zero, List.getElem?_set_self (by omega)]; rfl
      · rw [List.getElem?_set_ne (by omega), List.getElem?_set_ne (by omega), List.getElem?_set_self (by simp; omega)]; rfl
      · rw [List.getElem?_set_ne (by omega), List.getElem?_set_self (by simp; omega)]; rfl
      · rw [List.getElem?_set_self (by simp; omega)]; rfl
      · omega
    · have e : (L.set k x).getD i evZ = L.getD i evZ := by simp [List.getD_eq_getElem?_getD, List.getElem?_set_ne (Ne.symm hik)]
      rw [e, List.getElem?_set_ne (by omega), List.getElem?_set_ne (by omega), List.getElem?_set_ne (by omega), List.getElem?_set_ne (by omega), cellsL_at L i t ht (by omega)]
  · rw [List.getElem?_eq_none (by simp; omega), List.getElem?_eq_none (by rw [cellsL_len, List.length_set]; omega)]

/-- what the inner loop keeps: of the first p elements those that stay lie at the beginning, behind place k all is as it was -/
structure CInv (L M : List Ev) (p k : Nat) : Prop where
  len : M.length = L.length
  head : M.take k = cptTo L p
  kp : k + 1 ≤ p
  tail : ∀ i, k ≤ i → M.getD i evZ = L.getD i evZ
theorem CInv.start {L : List Ev} {k : Nat} (hk : k < L.length) (h : ∀ j, j < k → keepAt L j = true) (hn : keepAt L k = false) : CInv L L (k + 1) k :=
  ⟨rfl, by rw [cptTo_no hn, cptTo_all k (by omega) h], by omega, fun i _ => rfl⟩
theorem CInv.skip {L M : List Ev} {p k : Nat} (h : CInv L M p k) (hn : keepAt L p = false) : CInv L M (p + 1) k := ⟨h.len, by rw [cptTo_no hn, h.head], by have := h.kp; omega, h.tail⟩
theorem CInv.keep {L M : List Ev} {p k : Nat} (h : CInv L M p k) (hp : p < L.length) (hy : keepAt L p = true) : CInv L (M.set k (L.getD p evZ)) (p + 1) (k + 1) := by
  have hkp := h.kp
  have hkl : k < M.length := by rw [h.len]; omega
  refine ⟨by rw [List.length_set, h.len], ?_, by omega, fun i hi => ?_⟩
  · rw [cptTo_yes hy, ← h.head, List.take_add_one, List.take_set_of_le (Nat.le_refl _)]
    simp [hkl]
  · rw [← h.tail i (by omega)]
    simp [List.getD_eq_getElem?_getD, List.getElem?_set_ne (show k ≠ i by omega)]

theorem grownBy_below {w w' : World} (r : Option Nat) (h : Below w.heap.size w w') : w.grownBy w' r := ⟨h.os, h.tape, h.output, h.size, fun k hk _ => h.block k hk⟩
theorem grownBy_trans {w w' w'' : World} {r : Option Nat} (h : w.grownBy w' r) (h' : w'.grownBy w'' r) : w.grownBy w'' r :=
  ⟨h'.os.trans h.os, h'.tape.trans h.tape, h'.output.trans h.output, Nat.le_trans h.size h'.size, fun k hk hn => (h'.block k (Nat.lt_of_lt_of_le hk h.size) hn).trans (h.block k hk hn)⟩
theorem own_shrink {w : World} {base g n k cap : Nat} {xs : List Value} (h : w.ownsRow base 30 4 (.slice (some ⟨g, 0, none⟩) n cap) n xs) (hk : k ≤ n) : w.ownsRow base 30 4 (.slice (some ⟨g, 0, none⟩) k cap) k (xs.take (k * 4)) := by
  obtain ⟨h1, h2⟩ := h
  rcases h2 with ⟨h', _⟩ | ⟨g', cap', cur, h', hb, hh, hnc, hcm, hcs, hct⟩
  · simp at h'
  · simp only [Value.slice.injEq, Option.some.injEq, Addr.mk.injEq, and_true, true_and] at h'
    obtain ⟨rfl, rfl⟩ := h'
    refine ⟨by rw [List.length_take, h1]; omega, .inr ⟨g, cap, cur, rfl, hb, hh, by omega, hcm, hcs, ?_⟩⟩
    rw [← hct, List.take_take, Nat.min_eq_left (by omega)]
theorem own_setCells (base g n cap : Nat) : ∀ (vs : List Value) (o : Nat) (w : World) (xs : List Value), w.ownsRow base 30 4 (.slice (some ⟨g, 0, none⟩) n cap) n xs → ∃ xs', (w.setCells g o vs).ownsRow base 30 4 (.slice (some ⟨g, 0, none⟩) n cap) n xs' ∧ xs'.take o = xs.take o ∧ w.grownBy (w.setCells g o vs) (some g)
  | [], o, w, xs, h => ⟨xs, h, rfl, World.grownBy.refl _ _⟩
  | v :: r, o, w, xs, h => by
    obtain ⟨xs', h1, h2, h3⟩ := own_setCells base g n cap r (o + 1) _ _ (h.stored o v).1
    refine ⟨xs', h1, ?_, grownBy_trans (h.stored o v).2 h3⟩
    have e1 : xs'.take o = (xs'.take (o + 1)).take o := by rw [List.take_take, Nat.min_eq_left (by omega)]
    rw [e1, h2, List.take_take, Nat.min_eq_left (by omega), List.take_set_of_le (Nat.le_refl _)]
theorem zeroCells_one (n : Nat) : ∀ v ∈ (Builtin.zeroCells (Value.agg #[.int .i64 0, .int .i64 0, .int .i64 0, .int .i64 0]).cells n).toList, v.oneCell' = true := by
  intro v hv
  simp only [Builtin.zeroCells, Value.cells, Array.toList_map, List.mem_map] at hv
  obtain ⟨i, _, rfl⟩ := hv
  have : i % 4 < 4 := Nat.mod_lt _ (by decide)
  rcases h : i % 4 with _ | _ | _ | _ | t
  · simp; rfl
  · simp; rfl
  · simp; rfl
  · simp; rfl
  · omega

theorem clear_run (w : World) (base g n k cap : Nat) (ty : TypeId) (xs : List Value) (h : w.ownsRow base 30 4 (.slice (some ⟨g, 0, none⟩) n cap) n xs) (hk : k < n) (c : Nat) :
    (Builtin.clear_ #[26] ty #[.slice (some ⟨g, k * 4, none⟩) (n - k) c]).run Try.prog w = .ok (.tuple #[]) (w.setCells g (k * 4) (Builtin.zeroCells (Value.agg #[.int .i64 0, .int .i64 0, .int .i64 0, .int .i64 0]).cells (n - k)).toList) := by
  have hl : (Builtin.zeroCells (Value.agg #[.int .i64 0, .int .i64 0, .int .i64 0, .int .i64 0]).cells (n - k)).toList.length = (n - k) * 4 := by
    rw [Array.length_toList, zeroCells_size]; rfl
  have hst := run_storeCells_cells (P := Try.prog) g (k * 4) (Builtin.zeroCells (Value.agg #[.int .i64 0, .int .i64 0, .int .i64 0, .int .i64 0]).cells (n - k)).toList 0 w
    (by intro j hj; rw [hl] at hj; rw [Nat.add_zero]; obtain ⟨v, hv⟩ := own_some h (k * 4 + j) (by omega); rw [hv]; rfl)
    (by intro j hj; rw [Nat.add_zero]; exact h.frozenAt _) (zeroCells_one _)
  simp only [Nat.add_zero] at hst
  obtain ⟨m, hm⟩ : ∃ m, n - k = m + 1 := ⟨n - k - 1, by omega⟩
  rw [hm] at hst ⊢
  simp [Builtin.clear_, run_underlying Try.underlying26, Try.zeroValue30, hst]

set_option maxRecDepth 10000 in
set_option maxHeartbeats 8000000 in
theorem compact_any (base : Nat) (v : Value) (L : List Ev) (w : World) (h : OwnV w base v L) (hl : L.length ≤ 1000000) :
    Calls Try.prog 45 #[v] w fun e w' => ∃ v', e = .returned v' ∧ OwnV w' base v' (cptL L) ∧ w.grownBy w' v.ownBlock := by
  rcases h.cases with ⟨rfl, rfl⟩ | ⟨g, cap, rfl, hO⟩
  · go_enter Try.func45, Try.ntmps45
    go_wp2
    go_ret
    exact ⟨_, rfl, h, World.grownBy.refl _ _⟩
  obtain ⟨n, hn⟩ : ∃ n, n = L.length := ⟨_, rfl⟩
  have HN : Hid (n = L.length) := hn
  have HO : Hid (w.ownsRow base 30 4 (.slice (some ⟨g, 0, none⟩) n cap) n (cellsL L)) := by
    have h := hO
    unfold OwnE at h
    rw [← hn] at h
    exact h
  have hcap : n ≤ cap ∧ cap ≤ 9223372036854775807 := by rw [hn]; exact hO.caps
  obtain ⟨hc1, hc2⟩ := hcap
  rw [← hn] at hl ⊢
  by_cases hn2 : n < 2
  · have hk : Hid (cptL L = L) := by
      show _ = _
      unfold cptL
      rw [cptTo_all L.length (Nat.le_refl _) (fun j hj => by
        obtain rfl : j = 0 := by omega
        rfl), List.take_of_length_le (Nat.le_refl _)]
    clear hn h hO
    have hn2I : (n : Int) < 2 := by omega
    go_enter Try.func45, Try.ntmps45
    go_wp2
    go_ret
    refine ⟨_, rfl, ?_, World.grownBy.refl _ _⟩
    rw [hk.out]
    unfold OwnV
    rw [← HN.out]
    exact HO.out
  have hn2d : decide ((n : Int) < 2) = false := decide_eq_false (by omega)
  clear h hO hn
  go_enter Try.func45, Try.ntmps45
  go_wp2
  go_loopw [3] (fun i wr => ∃ (k : Nat), 1 ≤ k ∧ k ≤ n ∧ i = .int .i64 k ∧ Hid (∀ j, j < k → keepAt L j = true) ∧ wr.ownsRow base 30 4 (.slice (some ⟨g, 0, none⟩) n cap) n (cellsL L) ∧ Hid (w.grownBy wr (some g))) (fun i _ => n - (intOf i).toNat)
  case atStart => exact ⟨1, Nat.le_refl _, by omega, rfl, (fun j hj => by obtain rfl : j = 0 := (by omega); rfl), HO.out, World.grownBy.refl _ _⟩
  case round =>
    obtain ⟨k, hk1, hk, rfl, HR, how, HG⟩ := hrel
    by_cases hlt : k < n
    · obtain ⟨j, rfl⟩ : ∃ j, k = j + 1 := ⟨k - 1, by omega⟩
      have hltI : ((j + 1 : Nat) : Int) < (n : Int) := by omega
      have hli := (evs_lies how HN.out)
      obtain ⟨y, hy⟩ : ∃ y, y = L.getD (j + 1) evZ := ⟨_, rfl⟩
      obtain ⟨x, hx⟩ : ∃ x, x = L.getD j evZ := ⟨_, rfl⟩
      have m1 : EvAt wr g ((j + 1) * 4) y := by rw [hy]; exact hli (j + 1) (by omega)
      have m2 : EvAt wr g (j * 4) x := by rw [hx]; exact hli j (by omega)
      have HY : Hid (y = L.getD (j + 1) evZ) := hy
      have HX : Hid (x = L.getD j evZ) := hx
      have HOW : Hid (wr.ownsRow base 30 4 (.slice (some ⟨g, 0, none⟩) n cap) n (cellsL L)) := how
      have hne := Later.any wr
      have q0 : ∀ s : Later wr, s.val.cell? ⟨g, (j + 1) * 4, none⟩ = some (.int .i64 y.a) := fun s => s.cell m1.c0
      have q1 : ∀ s : Later wr, s.val.cell? ⟨g, (j + 1) * 4 + 1, none⟩ = some (.int .i64 y.b) := fun s => s.cell m1.c1
      have q2 : ∀ s : Later wr, s.val.cell? ⟨g, (j + 1) * 4 + 2, none⟩ = some (.int .i64 y.c) := fun s => s.cell m1.c2
      have q3 : ∀ s : Later wr, s.val.cell? ⟨g, (j + 1) * 4 + 3, none⟩ = some (.int .i64 y.d) := fun s => s.cell m1.c3
      have p0 : ∀ s : Later wr, s.val.cell? ⟨g, j * 4, none⟩ = some (.int .i64 x.a) := fun s => s.cell m2.c0
      have p1 : ∀ s : Later wr, s.val.cell? ⟨g, j * 4 + 1, none⟩ = some (.int .i64 x.b) := fun s => s.cell m2.c1
      have p2 : ∀ s : Later wr, s.val.cell? ⟨g, j * 4 + 2, none⟩ = some (.int .i64 x.c) := fun s => s.cell m2.c2
      have p3 : ∀ s : Later wr, s.val.cell? ⟨g, j * 4 + 3, none⟩ = some (.int .i64 x.d) := fun s => s.cell m2.c3
      have hgd : ∀ op a b w, (eqGuard op 30 a b (.agg #[.int .i64 y.a, .int .i64 y.b, .int .i64 y.c, .int .i64 y.d]) (.agg #[.int .i64 x.a, .int .i64 x.b, .int .i64 x.c, .int .i64 x.d])).run Try.prog w = .ok () w := fun op a b w => guardE op a b y x w
      clear hli m1 m2 hy hx how
      have hka : keepAt L (j + 1) = !(Ev.same y x) := by unfold keepAt; rw [HY.out, HX.out]; simp
      cases hs : Ev.same y x with
      | false =>
        have hql : ∀ w, (binOp .eql 30 (.agg #[.int .i64 y.a, .int .i64 y.b, .int .i64 y.c, .int .i64 y.d]) (.agg #[.int .i64 x.a, .int .i64 x.b, .int .i64 x.c, .int .i64 x.d])).run Try.prog w = .ok (.bool false) w := fun w => by rw [eqlE, hs]
        have HR' : Hid (∀ i, i < j + 1 + 1 → keepAt L i = true) := by
          intro i hi
          rcases Nat.lt_succ_iff_lt_or_eq.1 hi with h1 | rfl
          · exact HR.out i h1
          · rw [hka, hs]; rfl
        clear hka
        go_wp2
        refine wp_region_later (by kernel_rfl) (by kernel_rfl) ?_
        repeat (go_big_quiet_step (fail))
        refine wpQuiet_nil ?_
        rintro w' ⟨s, hs'⟩
        have hB2 : Below wr.heap.size wr w' := by rw [hs']; exact s.ok
        clear hs' s
        have HO2 : Hid (w'.ownsRow base 30 4 (.slice (some ⟨g, 0, none⟩) n cap) n (cellsL L)) := ownsRow_below HOW.out hB2
        have HG2 : Hid (w.grownBy w' (some g)) := grownBy_trans HG.out (grownBy_below _ hB2)
        clear hB2 q0 q1 q2 q3 p0 p1 p2 p3 hgd hql
        go_wp2
        go_roundw
        case rel => exact ⟨j + 1 + 1, by omega, by omega, by go_num, HR', HO2.out, HG2⟩
        case measure => simp [intOf]; omega
      | true =>
        have hql : ∀ w, (binOp .eql 30 (.agg #[.int .i64 y.a, .int .i64 y.b, .int .i64 y.c, .int .i64 y.d]) (.agg #[.int .i64 x.a, .int .i64 x.b, .int .i64 x.c, .int .i64 x.d])).run Try.prog w = .ok (.bool true) w := fun w => by rw [eqlE, hs]
        have HI0 : Hid (CInv L L (j + 1 + 1) (j + 1)) := CInv.start (by rw [← HN.out]; exact hlt) HR.out (by rw [hka, hs]; rfl)
        clear hka
        go_wp2
        refine wp_region_later (by kernel_rfl) (by kernel_rfl) ?_
        repeat (go_big_quiet_step (fail))
        refine wpQuiet_nil ?_
        rintro wA ⟨s, hs'⟩
        have hB2 : Below wr.heap.size wr wA := by rw [hs']; exact s.ok
        clear hs' s
        have HO2 : Hid (wA.ownsRow base 30 4 (.slice (some ⟨g, 0, none⟩) n cap) n (cellsL L)) := ownsRow_below HOW.out hB2
        have HG2 : Hid (w.grownBy wA (some g)) := grownBy_trans HG.out (grownBy_below _ hB2)
        clear hB2 q0 q1 q2 q3 p0 p1 p2 p3 hgd hql
        obtain ⟨k0, hk0⟩ : ∃ k0, k0 = j + 1 := ⟨_, rfl⟩
        rw [← hk0] at hlt hltI hk1 hk HI0 ⊢
        clear hk0
        go_wp2
        go_loopw [3, 5] (fun a i wz => ∃ (k i2 : Nat) (M : List Ev), k0 + (i2 + 1) ≤ n ∧ k < n ∧ a = .int .i64 k ∧ i = .int .i64 (i2 + 1 : Nat) ∧ Hid (CInv L M (k0 + (i2 + 1)) k) ∧ wz.ownsRow base 30 4 (.slice (some ⟨g, 0, none⟩) n cap) n (cellsL M) ∧ Hid (w.grownBy wz (some g))) (fun _ i _ => n - (intOf i).toNat)
        case atStart => exact ⟨k0, 0, L, by omega, by omega, rfl, rfl, HI0, HO2.out, HG2⟩
        case round =>
          obtain ⟨k, i2, M, hle, hkn, rfl, rfl, HI, how, HGz⟩ := hrel
          have hML : M.length = n := by rw [HI.out.len, ← HN.out]
          by_cases hp : k0 + (i2 + 1) < n
          · have hpI : ((i2 + 1 : Nat) : Int) < ((n - k0 : Nat) : Int) := by omega
            have hpN : i2 + 1 < n - k0 := by omega
            have hli := evs_lies how hML.symm
            obtain ⟨y, hy⟩ : ∃ y, y = L.getD (k0 + (i2 + 1)) evZ := ⟨_, rfl⟩
            obtain ⟨x, hx⟩ : ∃ x, x = L.getD (k0 + i2) evZ := ⟨_, rfl⟩
            have hkp := HI.out.kp
            have m1 : EvAt wr g (k0 * 4 + (i2 + 1) * 4) y := by
              have := hli (k0 + (i2 + 1)) (by omega)
              rw [HI.out.tail _ (by omega), ← hy, Nat.add_mul] at this
              exact this
            have m2 : EvAt wr g (k0 * 4 + i2 * 4) x := by
              have := hli (k0 + i2) (by omega)
              rw [HI.out.tail _ (by omega), ← hx, Nat.add_mul] at this
              exact this
            have hne := Later.any wr
            have q0 : ∀ s : Later wr, s.val.cell? ⟨g, k0 * 4 + (i2 + 1) * 4, none⟩ = some (.int .i64 y.a) := fun s => s.cell m1.c0
            have q1 : ∀ s : Later wr, s.val.cell? ⟨g, k0 * 4 + (i2 + 1) * 4 + 1, none⟩ = some (.int .i64 y.b) := fun s => s.cell m1.c1
            have q2 : ∀ s : Later wr, s.val.cell? ⟨g, k0 * 4 + (i2 + 1) * 4 + 2, none⟩ = some (.int .i64 y.c) := fun s => s.cell m1.c2
            have q3 : ∀ s : Later wr, s.val.cell? ⟨g, k0 * 4 + (i2 + 1) * 4 + 3, none⟩ = some (.int .i64 y.d) := fun s => s.cell m1.c3
            have p0 : ∀ s : Later wr, s.val.cell? ⟨g, k0 * 4 + i2 * 4, none⟩ = some (.int .i64 x.a) := fun s => s.cell m2.c0
            have p1 : ∀ s : Later wr, s.val.cell? ⟨g, k0 * 4 + i2 * 4 + 1, none⟩ = some (.int .i64 x.b) := fun s => s.cell m2.c1
            have p2 : ∀ s : Later wr, s.val.cell? ⟨g, k0 * 4 + i2 * 4 + 2, none⟩ = some (.int .i64 x.c) := fun s => s.cell m2.c2
            have p3 : ∀ s : Later wr, s.val.cell? ⟨g, k0 * 4 + i2 * 4 + 3, none⟩ = some (.int .i64 x.d) := fun s => s.cell m2.c3
            have hgd : ∀ op a b w, (eqGuard op 30 a b (.agg #[.int .i64 y.a, .int .i64 y.b, .int .i64 y.c, .int .i64 y.d]) (.agg #[.int .i64 x.a, .int .i64 x.b, .int .i64 x.c, .int .i64 x.d])).run Try.prog w = .ok () w := fun op a b w => guardE op a b y x w
            have hka : keepAt L (k0 + (i2 + 1)) = !(Ev.same y x) := by
              unfold keepAt
              rw [hy, hx, show k0 + (i2 + 1) - 1 = k0 + i2 by omega]
              simp
            have HY : Hid (y = L.getD (k0 + (i2 + 1)) evZ) := hy
            have HOW : Hid (wr.ownsRow base 30 4 (.slice (some ⟨g, 0, none⟩) n cap) n (cellsL M)) := how
            clear hli m2 hx how
            cases hs : Ev.same y x with
            | true =>
              have hql : ∀ w, (binOp .neq 30 (.agg #[.int .i64 y.a, .int .i64 y.b, .int .i64 y.c, .int .i64 y.d]) (.agg #[.int .i64 x.a, .int .i64 x.b, .int .i64 x.c, .int .i64 x.d])).run Try.prog w = .ok (.bool false) w := fun w => by rw [neqE, hs]; rfl
              have HI' : Hid (CInv L M (k0 + (i2 + 1 + 1)) k) := HI.out.skip (by rw [hka, hs]; rfl)
              clear hka hy m1
              go_wp2
              refine wp_region_later (by kernel_rfl) (by kernel_rfl) ?_
              repeat (go_big_quiet_step (fail))
              refine wpQuiet_nil ?_
              rintro w' ⟨s, hs'⟩
              have hB2 : Below wr.heap.size wr w' := by rw [hs']; exact s.ok
              clear hs' s
              have HO3 : Hid (w'.ownsRow base 30 4 (.slice (some ⟨g, 0, none⟩) n cap) n (cellsL M)) := ownsRow_below HOW.out hB2
              have HG3 : Hid (w.grownBy w' (some g)) := grownBy_trans HGz.out (grownBy_below _ hB2)
              clear hB2 q0 q1 q2 q3 p0 p1 p2 p3 hgd hql
              go_wp2
              go_roundw
              case rel => exact ⟨k, i2 + 1, M, by omega, hkn, rfl, by go_num, HI', HO3.out, HG3⟩
              case measure => simp [intOf]; omega
            | false =>
              have hql : ∀ w, (binOp .neq 30 (.agg #[.int .i64 y.a, .int .i64 y.b, .int .i64 y.c, .int .i64 y.d]) (.agg #[.int .i64 x.a, .int .i64 x.b, .int .i64 x.c, .int .i64 x.d])).run Try.prog w = .ok (.bool true) w := fun w => by rw [neqE, hs]; rfl
              have HI' : Hid (CInv L (M.set k y) (k0 + (i2 + 1 + 1)) (k + 1)) := by
                have := HI.out.keep (by rw [← HN.out]; exact hp) (by rw [hka, hs]; rfl)
                rw [← HY.out] at this
                exact this
              clear hka hy
              go_wp2
              refine wp_region_later (by kernel_rfl) (by kernel_rfl) ?_
              repeat (go_big_quiet_step (fail))
              refine wpQuiet_nil ?_
              rintro wB ⟨s, hs'⟩
              have hB2 : Below wr.heap.size wr wB := by rw [hs']; exact s.ok
              clear hs' s
              have HO3 : Hid (wB.ownsRow base 30 4 (.slice (some ⟨g, 0, none⟩) n cap) n (cellsL M)) := ownsRow_below HOW.out hB2
              have HG3 : Hid (w.grownBy wB (some g)) := grownBy_trans HGz.out (grownBy_below _ hB2)
              obtain ⟨z0, z1, z2, z3⟩ := m1.below hB2
              clear hB2 q0 q1 q2 q3 p0 p1 p2 p3 hgd hql
              have f0 := HO3.out.frozenAt (k * 4)
              obtain ⟨v0, y0⟩ := own_some HO3.out (k * 4) (by omega)
              have f1 := HO3.out.frozenAt (k * 4 + 1)
              obtain ⟨v1, y1⟩ := own_some HO3.out (k * 4 + 1) (by omega)
              have f2 := HO3.out.frozenAt (k * 4 + 2)
              obtain ⟨v2, y2⟩ := own_some HO3.out (k * 4 + 2) (by omega)
              have f3 := HO3.out.frozenAt (k * 4 + 3)
              obtain ⟨v3, y3⟩ := own_some HO3.out (k * 4 + 3) (by omega)
              have hknI : (k : Int) < (n : Int) := by omega
              go_wp2
              go_roundw
              case rel =>
                refine ⟨k + 1, i2 + 1, M.set k y, by omega, by have := HI'.out.kp; omega, by go_num, by go_num, HI', ?_, ?_⟩
                · rw [← cellsL_set M k y (by omega)]
                  exact (((((((World.ownsRow.stored HO3.out _ _).1).stored _ _).1).stored _ _).1).stored _ _).1
                · have s1 := World.ownsRow.stored HO3.out (k * 4) (.int .i64 y.a)
                  have s2 := s1.1.stored (k * 4 + 1) (.int .i64 y.b)
                  have s3 := s2.1.stored (k * 4 + 2) (.int .i64 y.c)
                  have s4 := s3.1.stored (k * 4 + 3) (.int .i64 y.d)
                  exact grownBy_trans HG3.out (grownBy_trans s1.2 (grownBy_trans s2.2 (grownBy_trans s3.2 s4.2)))
              case measure => simp [intOf]; omega
          · have hpe : k0 + (i2 + 1) = n := by omega
            have hpd : decide (((i2 + 1 : Nat) : Int) < ((n - k0 : Nat) : Int)) = false := decide_eq_false (by omega)
            have HOW : Hid (wr.ownsRow base 30 4 (.slice (some ⟨g, 0, none⟩) n cap) n (cellsL M)) := how
            have hcl := fun ty => clear_run wr base g n k cap ty (cellsL M) how hkn (cap - k)
            have HH : Hid (M.take k = cptL L) := by
              have h := HI.out.head
              rw [hpe, HN.out] at h
              exact h
            have hkN : k ≤ n := by omega
            have hkC : k ≤ cap := by omega
            obtain ⟨zs, hzs⟩ : ∃ zs, zs = (Builtin.zeroCells (Value.agg #[.int .i64 0, .int .i64 0, .int .i64 0, .int .i64 0]).cells (n - k)).toList := ⟨_, rfl⟩
            rw [← hzs] at hcl
            clear how hzs
            go_wp2
            go_ret
            obtain ⟨xs', h1, h2, h3⟩ := own_setCells base g n cap zs (k * 4) wr _ HOW.out
            have hkl : (cptL L).length = k := by rw [← HH.out, List.length_take]; omega
            refine ⟨_, rfl, ?_, grownBy_trans HGz.out h3⟩
            unfold OwnV
            rw [hkl]
            have h4 := own_shrink h1 hkN
            rw [h2] at h4
            have h5 : (cellsL M).take (k * 4) = cellsL (cptL L) := by
              rw [← HH.out]
              have h6 := congrArg cellsL (List.take_append_drop k M)
              rw [cellsL_append] at h6
              rw [← h6]
              have hl6 : (cellsL (M.take k)).length = k * 4 := by rw [cellsL_len, List.length_take]; omega
              rw [← hl6, List.take_left']
              rfl
            rw [h5] at h4
            exact h4
    · have hke : k = n := by omega
      subst hke
      have hkd : decide ((k : Int) < (k : Int)) = false := by simp
      have hk : Hid (cptL L = L) := by
        show _ = _
        unfold cptL
        rw [← HN.out, cptTo_all k (by rw [HN.out]; exact Nat.le_refl _) HR.out, List.take_of_length_le (by rw [HN.out]; exact Nat.le_refl _)]
      have HOW : Hid (wr.ownsRow base 30 4 (.slice (some ⟨g, 0, none⟩) k cap) k (cellsL L)) := how
      clear how
      go_wp2
      go_ret
      refine ⟨_, rfl, ?_, HG.out⟩
      rw [hk.out]
      unfold OwnV
      rw [← HN.out]
      exact HOW.out
end Go.Proofs.Ytglnnocfdlachaa
