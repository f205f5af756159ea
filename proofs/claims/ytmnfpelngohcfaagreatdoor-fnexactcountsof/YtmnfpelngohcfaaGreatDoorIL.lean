/-
  Slices of numbers: how they read, slices that the call owns, the laws' own functions over them. No condition but that the slices read.
-/
import Derived.Test.YtmnfpelngohcfaaGreatDoorBase
import Derived.Laws.AppendOwn
import Derived.Deep.AppendLies
import Derived.Deep.Onto
import Derived.Laws.CopyOwn
namespace Go.Proofs.YtmnfpelngohcfaaGreatDoor
open Go.RowKit
set_option linter.unusedVariables false

theorem infoI : (Tryz.prog.info? 2).map (fun i => (i.zero, i.size, i.bytes)) = some (some (.int .i64 0), 1, 8) := by kernel_rfl
/-- a slice of numbers that reads as L -/
def RdI (w : World) (v : Value) (L : List Int) : Prop :=
  ∃ a cap, v = .slice a L.length cap ∧ L.length ≤ cap ∧ cap ≤ 9223372036854775807 ∧ (0 < L.length → ∃ b off, a = some ⟨b, off, none⟩ ∧ b < w.heap.size ∧ ∀ i, i < L.length → w.cell? ⟨b, off + i, none⟩ = some (.int .i64 (L.getD i 0)))
theorem RdI.below {w w' : World} {v : Value} {L : List Int} (h : RdI w v L) (hB : Below w.heap.size w w') : RdI w' v L := by
  obtain ⟨a, cap, rfl, h1, h2, h3⟩ := h
  refine ⟨a, cap, rfl, h1, h2, fun hp => ?_⟩
  obtain ⟨b, off, e, hb, hc⟩ := h3 hp
  exact ⟨b, off, e, Nat.lt_of_lt_of_le hb hB.size, fun i hi => (hB.cell (p := ⟨b, off + i, none⟩) hb).trans (hc i hi)⟩
/-- numbers in memory of the call's own -/
def OwnI (w : World) (base : Nat) (v : Value) (L : List Int) : Prop := w.ownsRow base 2 1 v L.length (L.map (.int .i64 ·))
theorem OwnI.below {w w' : World} {base : Nat} {v : Value} {L : List Int} (h : OwnI w base v L) (hB : Below w.heap.size w w') : OwnI w' base v L := ownsRow_below h hB
theorem OwnI.rd {w : World} {base : Nat} {v : Value} {L : List Int} (h : OwnI w base v L) : RdI w v L := by
  have h' := h
  obtain ⟨h1, h2⟩ := h
  rcases h2 with ⟨rfl, h0⟩ | ⟨g, cap, cur, rfl, hb, hh, hn, hc, hs, ht⟩
  · have hL : L = [] := List.eq_nil_of_length_eq_zero h0
    subst hL
    exact ⟨none, 0, rfl, Nat.le_refl _, by omega, fun h => absurd h (Nat.lt_irrefl _)⟩
  · refine ⟨_, cap, rfl, hn, by unfold maxLen at hc; omega, fun _ => ⟨g, 0, rfl, lt_of_block hh, fun i hi => ?_⟩⟩
    rw [Nat.zero_add, World.ownsRow.cellAt h' i (by omega)]
    simp [hi]
theorem OwnI.base {w : World} {base base' : Nat} {v : Value} {L : List Int} (h : OwnI w base v L) (hb : base' ≤ base) : OwnI w base' v L := World.ownsRow.mono h hb

theorem RdI.shape {w : World} {v : Value} {L : List Int} (h : RdI w v L) : ∃ a c, v = .slice a L.length c ∧ True := by
  obtain ⟨a, c, e, _⟩ := h
  exact ⟨a, c, e, trivial⟩
theorem OwnI.slice {w : World} {base : Nat} {v : Value} {L : List Int} (h : OwnI w base v L) : ∃ a c, v = .slice a L.length c := by
  obtain ⟨a, c, e, _⟩ := h.rd
  exact ⟨a, c, e⟩

theorem OwnI.kept {w w' : World} {base : Nat} {v : Value} {L : List Int} {r : Option Nat} (h : OwnI w base v L) (hG : w.grownBy w' r) (hne : ∀ k, v.ownBlock = some k → some k ≠ r) : OwnI w' base v L := by
  have hlt := World.ownsRow.lt h
  obtain ⟨h1, h2⟩ := h
  refine ⟨h1, ?_⟩
  rcases h2 with h2 | ⟨g, cap, cur, hv, hb, hh, q⟩
  · exact .inl h2
  · have hg : v.ownBlock = some g := by rw [hv]; rfl
    exact .inr ⟨g, cap, cur, hv, hb, (hG.block g (hlt g hg).2 (hne g hg)).trans hh, q⟩
theorem OwnI.nil (w : World) (base : Nat) : OwnI w base (.slice none 0 0) [] := ⟨rfl, .inl ⟨rfl, rfl⟩⟩

set_option maxHeartbeats 1000000 in
theorem eqI_same (v v' : Value) (L : List Int) (w : World) (h : RdI w v L) (h' : RdI w v' L) :
    Calls Tryz.prog 12 #[v, v'] w fun e w' => e = .returned (.bool true) ∧ Below w.heap.size w w' := by
  obtain ⟨a, cap, rfl, hlc, hcm, hc⟩ := h
  obtain ⟨a', cap', rfl, hlc', hcm', hc'⟩ := h'
  obtain ⟨len, hlen⟩ : ∃ len, len = L.length := ⟨_, rfl⟩
  rw [← hlen] at hlc hlc' hc hc' ⊢
  clear hlen
  have hbn : ((len : Int) != (len : Int)) = false := by simp
  go_enter Tryz.func12, Tryz.ntmps12
  go_wp2
  go_loopw [5] (fun i wr => ∃ (k : Nat), k ≤ len ∧ i = .int .i64 k ∧ Below w.heap.size w wr)
    (fun i _ => len - (intOf i).toNat)
  case atStart => exact ⟨0, Nat.zero_le _, rfl, Below.refl _ _⟩
  case round =>
    obtain ⟨k, hk, rfl, hB⟩ := hrel
    by_cases hlt : k < len
    · obtain ⟨b, off, rfl, hbs, hcell⟩ := hc (by omega)
      obtain ⟨b', off', rfl, hbs', hcell'⟩ := hc' (by omega)
      have d1 := (hB.cell (p := ⟨b, off + k, none⟩) hbs).trans (hcell k hlt)
      have d1' := (hB.cell (p := ⟨b', off' + k, none⟩) hbs').trans (hcell' k hlt)
      obtain ⟨z, hz⟩ : ∃ z, z = L.getD k 0 := ⟨_, rfl⟩
      rw [← hz] at d1 d1'
      have hss : (z != z) = false := by simp
      clear hcell hc hcell' hc' hz
      go_wp2
      go_quiet (fail)
      go_wp2
      go_roundw
      case rel => exact ⟨k + 1, by omega, by go_num, hB.trans ⟨rfl, rfl, rfl, Nat.le_refl _, fun _ _ => rfl⟩⟩
      case measure => simp [intOf]; omega
    · have hke : k = len := by omega
      subst hke
      go_wp2
      go_ret
      exact ⟨rfl, hB⟩

/-- n marks, from s on -/
def marksI (s n : Nat) : List Int := (List.range n).map fun i => ((s + i : Nat) : Int)
theorem marksI_len (s n : Nat) : (marksI s n).length = n := by unfold marksI; simp
theorem marksI_at {s n i : Nat} (h : i < n) : (marksI s n).getD i 0 = ((s + i : Nat) : Int) := by unfold marksI; simp [h]
theorem marksI_of {s n : Nat} {xs : List Value} (hl : xs.length = n) (h : ∀ i, i < n → xs[i]? = some (.int .i64 ((s + i : Nat) : Int))) : xs = (marksI s n).map (.int .i64 ·) := by
  apply List.ext_getElem?
  intro i
  by_cases hi : i < n
  · rw [h i hi]; unfold marksI; simp [hi]
  · rw [List.getElem?_eq_none (by omega), List.getElem?_eq_none (by simp [marksI_len]; omega)]

set_option maxHeartbeats 1000000 in
theorem markI_any (base : Nat) (v : Value) (L : List Int) (s : Nat) (w : World) (h : OwnI w base v L) (hb : L.length ≤ 1048576) (hs : s ≤ 2199023255552) :
    Calls Tryz.prog 14 #[v, .int .i64 (s : Int)] w fun e w' => e = .returned (.int .i64 ((s + L.length : Nat) : Int)) ∧ OwnI w' base v (marksI s L.length) ∧ w.grownBy w' v.ownBlock := by
  obtain ⟨a, cap, rfl⟩ := h.slice
  obtain ⟨len, hlen⟩ : ∃ len, len = L.length := ⟨_, rfl⟩
  have HO0 : Hid (w.ownsRow base 2 1 (.slice a len cap) len (L.map (.int .i64 ·))) := by rw [hlen]; exact h
  have hr : ∀ w' : World, w'.ownsRow base 2 1 (.slice a len cap) len ((marksI s len).map (.int .i64 ·)) → OwnI w' base (.slice a len cap) (marksI s len) := fun w' q => by unfold OwnI; rw [marksI_len]; exact q
  have HR := (show Hid _ from hr)
  have hcap : cap ≤ 9223372036854775807 ∧ len ≤ cap := by
    obtain ⟨a', c', e, h1, h2, _⟩ := h.rd
    simp at e
    obtain ⟨_, rfl⟩ := e
    rw [hlen]
    exact ⟨h2, h1⟩
  rw [← hlen] at hb ⊢
  clear hlen h hr
  obtain ⟨hcm, hlc⟩ := hcap
  go_enter Tryz.func14, Tryz.ntmps14
  go_wp2
  go_loopw [1, 5] (fun x i wr => ∃ (j : Nat) (xs : List Value), j ≤ len ∧ i = .int .i64 j ∧ x = .int .i64 ((s + j : Nat) : Int) ∧ wr.ownsRow base 2 1 (.slice a len cap) len xs ∧ Hid (∀ t, t < j → xs[t]? = some (.int .i64 ((s + t : Nat) : Int))) ∧ w.grownBy wr (Value.slice a len cap).ownBlock)
    (fun _ i _ => len - (intOf i).toNat)
  case atStart => exact ⟨0, _, Nat.zero_le _, rfl, rfl, HO0.out, fun t ht => absurd ht (Nat.not_lt_zero _), World.grownBy.refl _ _⟩
  case round =>
    obtain ⟨j, xs, hj, rfl, rfl, how, HA, hG⟩ := hrel
    by_cases hlt : j < len
    · obtain ⟨g, rfl⟩ : ∃ g, a = some ⟨g, 0, none⟩ := by
        rcases how.2 with ⟨h', h0⟩ | ⟨g, cap', cur, h', _⟩
        · omega
        · simp only [Value.slice.injEq] at h'
          exact ⟨g, h'.1⟩
      have hltI : (j : Int) < (len : Int) := by omega
      have hxl : xs.length = len * 1 := how.1
      have f1 := how.frozenAt j
      obtain ⟨v1, e1⟩ := own_some how j (by omega)
      have HO : Hid (_) := how
      have HG : Hid (_) := hG
      clear how hG
      go_wp2
      go_roundw
      case rel =>
        refine ⟨j + 1, xs.set j (.int .i64 ((s + j : Nat) : Int)), by omega, by go_num, by go_num, (World.ownsRow.stored HO.out _ _).1, ?_, HG.out.trans (World.ownsRow.stored HO.out _ _).2⟩
        intro t ht
        rcases Nat.lt_succ_iff_lt_or_eq.1 ht with h1 | rfl
        · rw [List.getElem?_set_ne (by omega)]
          exact HA.out t h1
        · rw [List.getElem?_set_self (by omega)]
      case measure => simp [intOf]; omega
    · have hje : j = len := by omega
      subst hje
      have hm : xs = (marksI s j).map (.int .i64 ·) := marksI_of (by have := how.1; omega) HA.out
      have HO : Hid (wr.ownsRow base 2 1 (.slice a j cap) j ((marksI s j).map (.int .i64 ·))) := by rw [← hm]; exact how
      clear how hm
      go_wp2
      go_ret
      exact ⟨rfl, HR.out _ HO.out, hG⟩

set_option maxHeartbeats 1000000 in
theorem heldI_any (v : Value) (s n : Nat) (w : World) (h : RdI w v (marksI s n)) (hb : n ≤ 1048576) (hs : s ≤ 2199023255552) :
    Calls Tryz.prog 15 #[v, .int .i64 (s : Int)] w fun e w' => e = .returned (.int .i64 ((s + n : Nat) : Int)) ∧ Below w.heap.size w w' := by
  obtain ⟨a, cap, rfl, hlc, hcm, hc⟩ := h
  rw [marksI_len] at hlc hc ⊢
  go_enter Tryz.func15, Tryz.ntmps15
  go_wp2
  go_loopw [1, 5] (fun x i wr => ∃ (j : Nat), j ≤ n ∧ i = .int .i64 j ∧ x = .int .i64 ((s + j : Nat) : Int) ∧ Below w.heap.size w wr)
    (fun _ i _ => n - (intOf i).toNat)
  case atStart => exact ⟨0, Nat.zero_le _, rfl, rfl, Below.refl _ _⟩
  case round =>
    obtain ⟨j, hj, rfl, rfl, hB⟩ := hrel
    by_cases hlt : j < n
    · obtain ⟨b, off, rfl, hbs, hcell⟩ := hc (by omega)
      have hltI : (j : Int) < (n : Int) := by omega
      have d1 := (hB.cell (p := ⟨b, off + j, none⟩) hbs).trans (hcell j hlt)
      rw [marksI_at hlt] at d1
      have hss : ((((s + j : Nat) : Int)) != ((s + j : Nat) : Int)) = false := by simp
      clear hcell hc
      go_wp2
      go_roundw
      case rel => exact ⟨j + 1, by omega, by go_num, by go_num, hB⟩
      case measure => simp [intOf]; omega
    · have hje : j = n := by omega
      subst hje
      go_wp2
      go_ret
      exact ⟨rfl, hB⟩
end Go.Proofs.YtmnfpelngohcfaaGreatDoor
