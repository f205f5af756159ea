/-
  The first epoch of a key: slices.IndexFunc over epochOf's closure, the specification's l12Epoch; slices of numbers behind numbers. No condition but that the slices read.
-/
import Derived.Test.YtcolcnkjcagbaaaDoorBxB
import Derived.Test.YtcolcnkjcagbaaaDoorBxG
import Derived.Test.YtcolcnkjcagbaaaDoorEpSpec
import Derived.Laws.AppendOwn
namespace Go.Proofs.YtcolcnkjcagbaaaDoor
open Go.RowKit
set_option linter.unusedVariables false

/-- the first epoch of a key -/
def fst (K : Nat → Int) (key : Int) (len : Nat) : Option Nat := (List.range len).find? fun i => K i == key
theorem fst_no {K : Nat → Int} {key : Int} {len : Nat} (h : ∀ i, i < len → (K i == key) = false) : fst K key len = none := by
  unfold fst
  rw [List.find?_eq_none]
  intro i hi
  rw [h i (List.mem_range.1 hi)]
  simp
theorem fst_yes {K : Nat → Int} {key : Int} {len k : Nat} (hk : k < len) (h : (K k == key) = true) (hn : ∀ i, i < k → (K i == key) = false) : fst K key len = some k := by
  unfold fst
  rw [List.find?_range_eq_some]
  exact ⟨h, List.mem_range.2 hk, fun j hj => by rw [hn j hj]; rfl⟩
/-- its place, or -1 -/
def atV (o : Option Nat) : Int := match o with | some k => (k : Int) | none => -1

theorem key_is (Kx : Int) (A : Option Addr) (n c : Nat) (key : Int) (s : ByteArray) (B : Nat) (w : World) (h : w.heap[B]? = some (.cells #[.int .i64 key, .string s] 26 (0, 0))) :
    Calls Tryd.prog 42 #[.agg #[.int .i64 Kx, .slice A n c], .pointer (some ⟨B, 0, none⟩)] w fun e w' => e = .returned (.bool (Kx == key)) ∧ Below w.heap.size w w' := by
  have hB : Below w.heap.size w (w.alloc (.cells #[.int .i64 Kx, .slice A n c] 58)) := (Below.refl _ _).alloc (Nat.le_refl _) _
  have c0 : (w.alloc (.cells #[.int .i64 Kx, .slice A n c] 58)).cell? ⟨B, 0, none⟩ = some (.int .i64 key) := cell_of_row _ _ 0 _ _ _ ((hB.block _ (lt_of_block h)).trans h)
  have HB := (show Hid _ from hB)
  clear hB h
  go_enter Tryd.func42, Tryd.ntmps42
  go_wp2
  go_ret
  exact ⟨rfl, HB.out⟩

set_option maxHeartbeats 1000000 in
theorem index_any (a : Option Addr) (len cap : Nat) (K : Nat → Int) (L : Nat → Nat) (M : Nat → Nat → Int) (key : Int) (s : ByteArray) (B : Nat) (w : World) (h : Ep.IsEps w a len cap K L M) (hb : w.heap[B]? = some (.cells #[.int .i64 key, .string s] 26 (0, 0))) :
    Calls Tryd.prog 41 #[.slice a len cap, .func (.func 42) #[] #[.pointer (some ⟨B, 0, none⟩)]] w fun e w' => e = .returned (.int .i64 (atV (fst K key len))) ∧ Below w.heap.size w w' := by
  obtain ⟨hlc, hcm, hc⟩ := h
  have HBX := (show Hid _ from hb)
  have HC : Hid (∀ v, Below w.heap.size w v → ∀ Kx A n c, Calls Tryd.prog 42 #[.agg #[.int .i64 Kx, .slice A n c], .pointer (some ⟨B, 0, none⟩)] v fun e w' => e = .returned (.bool (Kx == key)) ∧ Below v.heap.size v w') := fun v hv Kx A n c => key_is Kx A n c key s B v ((hv.block _ (lt_of_block hb)).trans hb)
  clear hb
  go_enter Tryd.func41, Tryd.ntmps41
  go_wp2
  go_loopw [8] (fun i wr => ∃ (k : Nat), k ≤ len ∧ i = .int .i64 k ∧ Hid (∀ j, j < k → (K j == key) = false) ∧ Hid (Below w.heap.size w wr)) (fun i _ => len - (intOf i).toNat)
  case atStart => exact ⟨0, Nat.zero_le _, rfl, fun j hj => absurd hj (Nat.not_lt_zero _), Below.refl _ _⟩
  case round =>
    obtain ⟨k, hk, rfl, HA, HB⟩ := hrel
    by_cases hlt : k < len
    · obtain ⟨b, off, A, C, rfl, hbs, hcell⟩ := hc (by omega)
      obtain ⟨c1, c2, _⟩ := hcell k hlt
      have d1 := (HB.out.cell (p := ⟨b, off + k * 2, none⟩) hbs).trans c1
      have d2 := (HB.out.cell (p := ⟨b, off + k * 2 + 1, none⟩) hbs).trans c2
      have hltI : (k : Int) < (len : Int) := by omega
      clear hcell hc c1 c2
      cases hq : (K k == key) with
      | true =>
        have hr : Hid (fst K key len = some k) := fst_yes hlt hq HA.out
        go_wp2_with fail
        refine (HC.out _ HB.out _ _ _ _).mono ?_
        rintro e w1 ⟨rfl, hB1⟩
        rw [hq]
        have hBF := HB.out.trans (hB1.mono HB.out.size)
        go_wp2
        go_ret
        exact ⟨by rw [hr.out]; rfl, hBF⟩
      | false =>
        have HS : Hid (∀ j, j < k + 1 → (K j == key) = false) := fun j hj => by
          rcases Nat.lt_succ_iff_lt_or_eq.1 hj with h1 | rfl
          · exact HA.out j h1
          · exact hq
        go_wp2_with fail
        refine (HC.out _ HB.out _ _ _ _).mono ?_
        rintro e w1 ⟨rfl, hB1⟩
        rw [hq]
        have HBF : Hid (Below w.heap.size w w1) := HB.out.trans (hB1.mono HB.out.size)
        clear hB1
        go_wp2
        go_roundw
        case rel => exact ⟨k + 1, by omega, by go_num, HS, HBF⟩
        case measure => simp [intOf]; omega
    · have hke : k = len := by omega
      subst hke
      have hr : fst K key k = none := fst_no HA.out
      go_wp2
      go_ret
      exact ⟨by rw [hr]; rfl, HB.out⟩

set_option maxHeartbeats 1000000 in
theorem l12Epoch_any (a : Option Addr) (len cap : Nat) (K : Nat → Int) (L : Nat → Nat) (M : Nat → Nat → Int) (key : Int) (w : World) (h : Ep.IsEps w a len cap K L M) :
    Calls Tryd.prog 28 #[.slice a len cap, .int .i64 key] w fun e w' => e = .returned (.int .i64 (atV (fst K key len))) ∧ Below w.heap.size w w' := by
  obtain ⟨hlc, hcm, hc⟩ := h
  go_enter Tryd.func28, Tryd.ntmps28
  go_wp2
  go_loopw [5] (fun i wr => ∃ (k : Nat), k ≤ len ∧ i = .int .i64 k ∧ Hid (∀ j, j < k → (K j == key) = false) ∧ Hid (Below w.heap.size w wr)) (fun i _ => len - (intOf i).toNat)
  case atStart => exact ⟨0, Nat.zero_le _, rfl, fun j hj => absurd hj (Nat.not_lt_zero _), Below.refl _ _⟩
  case round =>
    obtain ⟨k, hk, rfl, HA, HB⟩ := hrel
    by_cases hlt : k < len
    · obtain ⟨b, off, A, C, rfl, hbs, hcell⟩ := hc (by omega)
      obtain ⟨c1, c2, _⟩ := hcell k hlt
      have d1 := (HB.out.cell (p := ⟨b, off + k * 2, none⟩) hbs).trans c1
      have d2 := (HB.out.cell (p := ⟨b, off + k * 2 + 1, none⟩) hbs).trans c2
      have hltI : (k : Int) < (len : Int) := by omega
      clear hcell hc c1 c2
      cases hq : (K k == key) with
      | true =>
        have hr : Hid (fst K key len = some k) := fst_yes hlt hq HA.out
        go_wp2
        go_ret
        exact ⟨by rw [hr.out]; rfl, HB.out⟩
      | false =>
        have HS : Hid (∀ j, j < k + 1 → (K j == key) = false) := fun j hj => by
          rcases Nat.lt_succ_iff_lt_or_eq.1 hj with h1 | rfl
          · exact HA.out j h1
          · exact hq
        go_wp2
        go_roundw
        case rel => exact ⟨k + 1, by omega, by go_num, HS, HB⟩
        case measure => simp [intOf]; omega
    · have hke : k = len := by omega
      subst hke
      have hr : fst K key k = none := fst_no HA.out
      go_wp2
      go_ret
      exact ⟨by rw [hr]; rfl, HB.out⟩

/-- numbers behind numbers -/
theorem infoInt : (Tryd.prog.info? 2).map (fun i => (i.zero, i.size, i.bytes)) = some (some (.int .i64 0), 1, 8) := by kernel_rfl
theorem appI_run (w : World) (base : Nat) (ty : TypeId) (v : Value) (n : Nat) (xs : List Value) (u : Option Addr) (m uc : Nat) (Z : Nat → Int) (hv : w.ownsRow base 2 1 v n xs) (hu : Ep.IsI64 w u m uc Z) (h0 : u = none → m = 0 ∧ uc = 0) (hl : n + m ≤ 1000000000) (hb : base ≤ w.heap.size) :
    ∃ v' w', (Builtin.append_ #[38, 38] ty #[v, .slice u m uc]).run Tryd.prog w = .ok v' w' ∧ w'.ownsRow base 2 1 v' (n + m) (xs ++ (List.range m).map fun i => .int .i64 (Z i)) ∧ w.grownBy w' v.ownBlock := by
  obtain ⟨i0, hi, hz0, hz1, hz2⟩ := info_parts infoInt
  cases u with
  | none =>
    obtain ⟨rfl, rfl⟩ := h0 rfl
    exact ⟨v, w, run_append_owned_none (P := Tryd.prog) w base 38 ty 2 i0 1 Tryd.underlying38 hi v n xs hv, by simpa using hv, World.grownBy.refl _ _⟩
  | some p =>
    obtain ⟨hlc, hcm, hc⟩ := hu
    have hn : ∀ j z, ((List.range m).map fun i => Value.int .i64 (Z i))[j]? = some z → w.cell? (p.add j) = some z := fun j z hz => by
      by_cases hj : j < m
      · obtain ⟨b, off, e, _, hcell⟩ := hc (by omega)
        cases e
        have hadd : (⟨b, off, none⟩ : Addr).add j = ⟨b, off + j, none⟩ := by unfold Addr.add; split <;> simp_all
        rw [hadd, hcell j hj, ← hz]
        simp [hj]
      · rw [List.getElem?_eq_none (by simp; omega)] at hz
        cases hz
    obtain ⟨v', w', hr, h2, h3, h4⟩ := run_append_own (P := Tryd.prog) w base 38 ty 2 i0 (.int .i64 0) 1 8 Tryd.underlying38 hi hz0 hz1 hz2 rfl (by decide) v n xs hv p m uc ((List.range m).map fun i => .int .i64 (Z i)) (by simp) hn (by intro z hz; obtain ⟨i, _, rfl⟩ := List.mem_map.1 hz; rfl) (by unfold maxLen; omega) (by omega) hb
    exact ⟨v', w', hr, h2, h3⟩
theorem wpList_appI {ops : Array Oper} {Q : Exit → Act → World → Prop} {a : Act} {w : World} {rest : List Oper} {o : Oper} (hw : Region.wanted o (yielded ops a.tmps) = true) (x y : Operand)
    (h : o.op = .call { callee := .builtin .append, args := #[x, y], argTypes := #[38, 38] }) (base : Nat) (v : Value) (n : Nat) (xs : List Value) (u : Option Addr) (m uc : Nat) (Z : Nat → Int) (hx : a.eval x = v) (hy : a.eval y = .slice u m uc)
    (hv : w.ownsRow base 2 1 v n xs) (hu : Ep.IsI64 w u m uc Z) (h0 : u = none → m = 0 ∧ uc = 0) (hl : n + m ≤ 1000000000) (hb : base ≤ w.heap.size)
    (hK : ∀ v' w', w'.ownsRow base 2 1 v' (n + m) (xs ++ (List.range m).map fun i => .int .i64 (Z i)) → w.grownBy w' v.ownBlock → wpList Tryd.prog ops Q rest (a.put o.dst v') w') : wpList Tryd.prog ops Q (o :: rest) a w :=
  BigFrame.wpList_want hw fun K hK' => by
    obtain ⟨v', w', hr, h1, h2⟩ := appI_run w base o.type v n xs u m uc Z hv hu h0 hl hb
    unfold Oper.wp execOp
    simp only [h, resolve, invoke, builtin, Sem.run_bind, Sem.run_pure, Result.andThen_ok, List.map_toArray, List.map_cons, List.map_nil, hx, hy, hr]
    exact hK' _ _ (hK v' w' h1 h2)
theorem nilIN (n c : Nat) (w : World) : (binOp .eql 38 (.slice none n c) (.slice none 0 0)).run Tryd.prog w = .ok (.bool true) w := by kernel_rfl
theorem nilIS (a : Addr) (n c : Nat) (w : World) : (binOp .eql 38 (.slice (some a) n c) (.slice none 0 0)).run Tryd.prog w = .ok (.bool false) w := by kernel_rfl
/-- numbers of the call's own -/
def OwnZ (w : World) (base : Nat) (v : Value) (n : Nat) (Z : Nat → Int) : Prop := w.ownsRow base 2 1 v n ((List.range n).map fun i => .int .i64 (Z i))
theorem clone_any (u : Option Addr) (n cap : Nat) (Z : Nat → Int) (w : World) (h : Ep.IsI64 w u n cap Z) (h0 : u = none → n = 0 ∧ cap = 0) (hn : n ≤ 1048576) :
    Calls Tryd.prog 34 #[.slice u n cap] w fun e w' => ∃ u' c, e = .returned (.slice u' n c) ∧ OwnZ w' w.heap.size (.slice u' n c) n Z ∧ Below w.heap.size w w' := by
  cases u with
  | none =>
    have HN0 : Hid (n = 0) := (h0 rfl).1
    have hnn := nilIN n cap
    clear h h0 hn
    go_enter Tryd.func34, Tryd.ntmps34
    go_wp2
    go_ret
    have e := HN0.out
    subst e
    exact ⟨none, 0, rfl, World.ownsRow_nil w w.heap.size 2 1, Below.refl _ _⟩
  | some ad =>
    have HI : Hid (Ep.IsI64 w (some ad) n cap Z) := h
    have hnn := nilIS ad n cap
    have HN : Hid (n ≤ 1048576) := hn
    clear h h0 hn
    go_enter Tryd.func34, Tryd.ntmps34
    go_wp2_with (at_builtin
                 refine wpList_appI rfl _ _ rfl w.heap.size (.slice (some ⟨w.heap.size, 0, none⟩) 0 0) 0 [] (some ad) n cap Z rfl rfl (World.ownsRow_made w #[] 0 (Nat.le_refl _) (by decide) rfl) (HI.out.below ((Below.refl _ _).alloc (Nat.le_refl _) _)) (fun h => by cases h) (by have := HN.out; omega) (by simp) ?_
                 intro v4 w4 ho4 hg4)
    rw [Nat.zero_add] at ho4
    obtain ⟨u4, q4, rfl⟩ : ∃ u c, v4 = .slice u n c := by
      rcases ho4.2 with ⟨rfl, h2⟩ | ⟨g, c, cur, rfl, _⟩
      · subst h2
        exact ⟨none, 0, rfl⟩
      · exact ⟨_, c, rfl⟩
    have HB : Hid (Below w.heap.size w w4) := ((Below.refl _ w).alloc (Nat.le_refl _) _).grown hg4 (by simp) (fun x hx => by have hx' : some w.heap.size = some x := hx; cases hx'; exact Nat.le_refl _)
    have HO : Hid (OwnZ w4 w.heap.size (.slice u4 n q4) n Z) := ho4
    clear ho4 hg4
    go_ret
    exact ⟨u4, q4, rfl, HO.out, HB.out⟩
end Go.Proofs.YtcolcnkjcagbaaaDoor
