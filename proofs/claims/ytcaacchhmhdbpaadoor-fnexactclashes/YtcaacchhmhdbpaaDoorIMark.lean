/-
  Slices of numbers: the laws' own functions over them. No condition but that the slices read.
-/
import Derived.Test.YtcaacchhmhdbpaaDoorClI
import Derived.Test.YtcaacchhmhdbpaaDoorCMark
namespace Go.Proofs.YtcaacchhmhdbpaaDoor
open Go.RowKit
set_option linter.unusedVariables false

/-- a slice of numbers that reads as Z 0, Z 1, .. -/
def IsI64 (w : World) (a : Option Addr) (len cap : Nat) (Z : Nat → Int) : Prop :=
  len ≤ cap ∧ cap ≤ 9223372036854775807 ∧ (0 < len → ∃ b off, a = some ⟨b, off, none⟩ ∧ b < w.heap.size ∧ ∀ i, i < len → w.cell? ⟨b, off + i, none⟩ = some (.int .i64 (Z i)))
theorem IsI64.below {w w' : World} {a : Option Addr} {len cap : Nat} {Z : Nat → Int} (h : IsI64 w a len cap Z) (hB : Below w.heap.size w w') : IsI64 w' a len cap Z := by
  obtain ⟨h1, h2, h3⟩ := h
  refine ⟨h1, h2, fun hp => ?_⟩
  obtain ⟨b, off, e, hb, hc⟩ := h3 hp
  exact ⟨b, off, e, by have := hB.size; omega, fun i hi => (hB.cell (p := ⟨b, off + i, none⟩) hb).trans (hc i hi)⟩
theorem IsI64.kept {p : Nat → Prop} {w w' : World} {a : Option Addr} {len cap : Nat} {Z : Nat → Int} (h : IsI64 w a len cap Z) (hK : Kept p w w') (hp : ∀ b off, a = some ⟨b, off, none⟩ → p b) : IsI64 w' a len cap Z := by
  obtain ⟨h1, h2, h3⟩ := h
  refine ⟨h1, h2, fun h0 => ?_⟩
  obtain ⟨b, off, e, hb, hc⟩ := h3 h0
  refine ⟨b, off, e, by have := hK.size; omega, fun i hi => ?_⟩
  have := hc i hi
  unfold World.cell? at this ⊢
  rw [hK.block b hb (hp b off e)]
  exact this

theorem ints_of_own {w : World} {base : Nat} {v : Value} {n : Nat} {xs : List Value} {Z : Nat → Int} (h : w.ownsRow base 2 1 v n xs) (hx : ∀ i, i < n → xs[i]? = some (.int .i64 (Z i))) :
    ∃ a cap, v = .slice a n cap ∧ IsI64 w a n cap Z ∧ ∀ b off, a = some ⟨b, off, none⟩ → base ≤ b ∧ b < w.heap.size := by
  have hlt := h.lt
  rcases h.2 with ⟨rfl, rfl⟩ | ⟨g, cap, cur, rfl, hb, hg, hnc, hcm, hcs, htake⟩
  · exact ⟨none, 0, rfl, ⟨Nat.le_refl _, by omega, fun h => absurd h (Nat.lt_irrefl _)⟩, fun b off e => by cases e⟩
  · refine ⟨_, cap, rfl, ⟨hnc, by unfold maxLen at hcm; omega, fun hp => ⟨g, 0, rfl, (Array.getElem?_eq_some_iff.1 hg).1, fun i hi => ?_⟩⟩, fun b off e => ?_⟩
    · have := h.cells (g := g) rfl i _ (hx i hi)
      have hadd : (⟨g, 0, none⟩ : Addr).add i = ⟨g, i, none⟩ := by unfold Addr.add; split <;> simp_all
      rw [hadd] at this
      rw [Nat.zero_add]
      exact this
    · simp only [Option.some.injEq, Addr.mk.injEq, and_true] at e
      obtain ⟨rfl, rfl⟩ := e
      exact hlt g rfl
/-- the numbers of L by their places -/
def atI (L : List Int) (i : Nat) : Int := L.getD i 0
theorem OwnI.ints {w : World} {base : Nat} {v : Value} {L : List Int} (h : OwnI w base v L) : ∃ a cap, v = .slice a L.length cap ∧ IsI64 w a L.length cap (atI L) ∧ ∀ b off, a = some ⟨b, off, none⟩ → base ≤ b ∧ b < w.heap.size :=
  ints_of_own (Z := atI L) h (fun i hi => by
    rw [List.getElem?_map]
    simp [atI, encI, List.getD, hi])
theorem OwnI.kept {p : Nat → Prop} {w w' : World} {base : Nat} {v : Value} {L : List Int} (h : OwnI w base v L) (hK : Kept p w w') (hp : ∀ b, base ≤ b → p b) : OwnI w' base v L := by
  obtain ⟨h1, h2⟩ := h
  refine ⟨h1, ?_⟩
  rcases h2 with h2 | ⟨g, cap, cur, hv, hg, hh, r⟩
  · exact Or.inl h2
  · exact Or.inr ⟨g, cap, cur, hv, hg, (hK.block _ (lt_of_block hh) (hp _ hg)).trans hh, r⟩

set_option maxHeartbeats 1000000 in
theorem eqInt64S_same (a a' : Option Addr) (len cap cap' : Nat) (Z : Nat → Int) (w : World) (h : IsI64 w a len cap Z) (h' : IsI64 w a' len cap' Z) :
    Calls Tryd.prog 12 #[.slice a len cap, .slice a' len cap'] w fun e w' => e = .returned (.bool true) ∧ Below w.heap.size w w' := by
  obtain ⟨hlc, hcm, hc⟩ := h
  obtain ⟨hlc', hcm', hc'⟩ := h'
  have hbn : ((len : Int) != (len : Int)) = false := by simp
  go_enter Tryd.func12, Tryd.ntmps12
  go_wp2
  go_loopw [5] (fun i wr => ∃ (k : Nat), k ≤ len ∧ i = .int .i64 k ∧ Below w.heap.size w wr)
    (fun i _ => len - (intOf i).toNat)
  case atStart => exact ⟨0, Nat.zero_le _, rfl, Below.refl _ _⟩
  case round =>
    obtain ⟨k, hk, rfl, hB⟩ := hrel
    by_cases hlt : k < len
    · obtain ⟨b, off, rfl, hbs, hcell⟩ := hc (by omega)
      obtain ⟨b', off', rfl, hbs', hcell'⟩ := hc' (by omega)
      have d1 := (hB.cell (p := ⟨b, off + k, none⟩) hbs).trans (hcell k hlt)
      have d1' := (hB.cell (p := ⟨b', off' + k, none⟩) hbs').trans (hcell' k hlt)
      have hss : ((Z k) != (Z k)) = false := by simp
      clear hcell hc hcell' hc'
      go_wp2
      go_quiet (fail)
      go_wp2
      go_roundw
      case rel => exact ⟨k + 1, by omega, by go_num, hB.trans ⟨rfl, rfl, rfl, Nat.le_refl _, fun _ _ => rfl⟩⟩
      case measure => simp [intOf]; omega
    · have hke : k = len := by omega
      subst hke
      go_wp2
      go_ret
      exact ⟨rfl, hB⟩

def imarks (n : Nat) : List Value := (List.range n).map fun i => .int .i64 ((1 + i : Nat) : Int)
theorem imarks_at {n i : Nat} (h : i < n) : (imarks n)[i]? = some (.int .i64 ((1 + i : Nat) : Int)) := by unfold imarks; simp [h]
theorem imarks_of {n : Nat} {xs : List Value} (hl : xs.length = n) (h : ∀ i, i < n → xs[i]? = some (.int .i64 ((1 + i : Nat) : Int))) : xs = imarks n := by
  apply List.ext_getElem?
  intro i
  by_cases hi : i < n
  · rw [h i hi, imarks_at hi]
  · rw [List.getElem?_eq_none (by omega), List.getElem?_eq_none (by unfold imarks; simp; omega)]

set_option maxHeartbeats 1000000 in
theorem markInt64S_any (a : Option Addr) (len cap base : Nat) (xs0 : List Value) (w : World) (h : w.ownsRow base 2 1 (.slice a len cap) len xs0) (hb : len ≤ 1000000) :
    Calls Tryd.prog 14 #[.slice a len cap, .int .i64 1] w fun e w' => e = .returned (.int .i64 ((1 + len : Nat) : Int)) ∧ w'.ownsRow base 2 1 (.slice a len cap) len (imarks len) ∧ w.grownBy w' (Value.slice a len cap).ownBlock := by
  go_enter Tryd.func14, Tryd.ntmps14
  go_wp2
  go_loopw [1, 5] (fun x i wr => ∃ (j : Nat) (xs : List Value), j ≤ len ∧ i = .int .i64 j ∧ x = .int .i64 ((1 + j : Nat) : Int) ∧ wr.ownsRow base 2 1 (.slice a len cap) len xs ∧ Hid (∀ t, t < j → xs[t]? = some (.int .i64 ((1 + t : Nat) : Int))) ∧ w.grownBy wr (Value.slice a len cap).ownBlock)
    (fun _ i _ => len - (intOf i).toNat)
  case atStart => exact ⟨0, xs0, Nat.zero_le _, rfl, rfl, h, fun t ht => absurd ht (Nat.not_lt_zero _), World.grownBy.refl _ _⟩
  case round =>
    obtain ⟨j, xs, hj, rfl, rfl, how, HA, hG⟩ := hrel
    by_cases hlt : j < len
    · obtain ⟨g, rfl⟩ : ∃ g, a = some ⟨g, 0, none⟩ := by
        rcases how.2 with ⟨h', h0⟩ | ⟨g, cap', cur, h', _⟩
        · omega
        · simp only [Value.slice.injEq] at h'
          exact ⟨g, h'.1⟩
      have hltI : (j : Int) < (len : Int) := by omega
      have hxl : xs.length = len * 1 := how.1
      have f1 := how.frozenAt j
      obtain ⟨v1, e1⟩ := own_some how j (by omega)
      have HO : Hid (_) := how
      have HG : Hid (_) := hG
      clear how hG h
      go_wp2
      go_roundw
      case rel =>
        refine ⟨j + 1, xs.set j (.int .i64 ((1 + j : Nat) : Int)), by omega, by go_num, by go_num, (World.ownsRow.stored HO.out _ _).1, ?_, HG.out.trans (World.ownsRow.stored HO.out _ _).2⟩
        intro t ht
        rcases Nat.lt_succ_iff_lt_or_eq.1 ht with h1 | rfl
        · rw [List.getElem?_set_ne (by omega)]
          exact HA.out t h1
        · rw [List.getElem?_set_self (by omega)]
      case measure => simp [intOf]; omega
    · have hje : j = len := by omega
      subst hje
      have hm : xs = imarks j := imarks_of (by have := how.1; omega) HA.out
      have HO : Hid (wr.ownsRow base 2 1 (.slice a j cap) j (imarks j)) := by rw [← hm]; exact how
      clear how hm
      go_wp2
      go_ret
      exact ⟨rfl, HO.out, hG⟩

set_option maxHeartbeats 1000000 in
theorem heldInt64S_any (a : Option Addr) (len cap : Nat) (w : World) (h : IsI64 w a len cap (fun i => ((1 + i : Nat) : Int))) (hb : len ≤ 1000000) :
    Calls Tryd.prog 15 #[.slice a len cap, .int .i64 1] w fun e w' => e = .returned (.int .i64 ((1 + len : Nat) : Int)) ∧ Below w.heap.size w w' := by
  obtain ⟨hlc, hcm, hc⟩ := h
  go_enter Tryd.func15, Tryd.ntmps15
  go_wp2
  go_loopw [1, 5] (fun x i wr => ∃ (j : Nat), j ≤ len ∧ i = .int .i64 j ∧ x = .int .i64 ((1 + j : Nat) : Int) ∧ Below w.heap.size w wr)
    (fun _ i _ => len - (intOf i).toNat)
  case atStart => exact ⟨0, Nat.zero_le _, rfl, rfl, Below.refl _ _⟩
  case round =>
    obtain ⟨j, hj, rfl, rfl, hB⟩ := hrel
    by_cases hlt : j < len
    · obtain ⟨b, off, rfl, hbs, hcell⟩ := hc (by omega)
      have hltI : (j : Int) < (len : Int) := by omega
      have d1 := (hB.cell (p := ⟨b, off + j, none⟩) hbs).trans (hcell j hlt)
      have hss : ((((1 + j : Nat) : Int)) != ((1 + j : Nat) : Int)) = false := by simp
      clear hcell hc
      go_wp2
      go_roundw
      case rel => exact ⟨j + 1, by omega, by go_num, by go_num, hB⟩
      case measure => simp [intOf]; omega
    · have hje : j = len := by omega
      subst hje
      go_wp2
      go_ret
      exact ⟨rfl, hB⟩
end Go.Proofs.YtcaacchhmhdbpaaDoor
