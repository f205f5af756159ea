/-
  The law's comparison of two slices of epochs that hold the same data returns true. No condition but that the slices read.
-/
import Derived.Test.YtcolcnkjcagbaaaDoorEpEps
import Derived.Deep.RegionWith
namespace Go.Proofs.YtcolcnkjcagbaaaDoor.Ep
open Go.RowKit
set_option linter.unusedVariables false

theorem eqI_self (Z : Nat → Int) (n : Nat) : eqI Z Z n = true := by
  unfold eqI
  simp

theorem below_from {w0 w w' : World} (h : Below w0.heap.size w0 w') (e1 : w0.os = w.os) (e2 : w0.tape = w.tape) (e3 : w0.output = w.output) (e4 : w0.heap = w.heap) : Below w.heap.size w w' :=
  ⟨h.os.trans e1, h.tape.trans e2, h.output.trans e3, by rw [← e4]; exact h.size, fun k hk => by rw [← e4]; exact h.block k (by rw [e4]; exact hk)⟩

theorem IsI64.same {w w' : World} {a : Option Addr} {len cap : Nat} {Z : Nat → Int} (h : IsI64 w a len cap Z) (e : w'.heap = w.heap) : IsI64 w' a len cap Z := by
  obtain ⟨h1, h2, h3⟩ := h
  refine ⟨h1, h2, fun hp => ?_⟩
  obtain ⟨b, off, e', hb, hc⟩ := h3 hp
  refine ⟨b, off, e', by rw [e]; exact hb, fun i hi => ?_⟩
  rw [← hc i hi]
  exact World.cell?_of_block (by rw [e])

set_option maxHeartbeats 400000 in
theorem eqEpoch_same (K : Int) (a a' : Option Addr) (len cap cap' : Nat) (Z : Nat → Int) (w : World) (h : IsI64 w a len cap Z) (h' : IsI64 w a' len cap' Z) :
    Calls Tryd.prog 33 #[.agg #[.int .i64 K, .slice a len cap], .agg #[.int .i64 K, .slice a' len cap']] w fun e w' => e = .returned (.bool true) ∧ Below w.heap.size w w' := by
  have hK : (K != K) = false := by simp
  have hB2 : Below w.heap.size w ((w.alloc (Obj.cells #[Value.int IntKind.i64 K, Value.slice a len cap] 58)).alloc (Obj.cells #[Value.int IntKind.i64 K, Value.slice a' len cap'] 58)) :=
    ((Below.refl _ _).alloc (Nat.le_refl _) _).alloc (by simp) _
  have hr : Hid ((len == len && eqI Z Z len) = true) := by
    show _ = _
    rw [eqI_self]; simp
  go_enter Tryd.func33, Tryd.ntmps33
  go_wp2_with (go_at_call 18; refine (eqInt64S_any _ _ _ _ _ _ Z Z _ (h.below hB2) (h'.below hB2)).mono ?_; rintro e w' ⟨rfl, n, rfl⟩; rw [hr.out])
  go_ret
  exact ⟨rfl, below_drewN hB2 n⟩

set_option maxHeartbeats 400000 in
theorem eqEpochS_same (a a' : Option Addr) (len cap cap' : Nat) (K : Nat → Int) (L : Nat → Nat) (M : Nat → Nat → Int) (w : World) (h : IsEps w a len cap K L M) (h' : IsEps w a' len cap' K L M) :
    Calls Tryd.prog 15 #[.slice a len cap, .slice a' len cap'] w fun e w' => e = .returned (.bool true) ∧ Below w.heap.size w w' := by
  obtain ⟨hlc, hcm, hc⟩ := h
  obtain ⟨hlc', hcm', hc'⟩ := h'
  have hbn : ((len : Int) != (len : Int)) = false := by simp
  go_enter Tryd.func15, Tryd.ntmps15
  go_wp2
  go_loopw [5] (fun i wr => ∃ (k : Nat), k ≤ len ∧ i = .int .i64 k ∧ Below w.heap.size w wr)
    (fun i _ => len - (intOf i).toNat)
  case atStart => exact ⟨0, Nat.zero_le _, rfl, Below.refl _ _⟩
  case round =>
    obtain ⟨k, hk, rfl, hB⟩ := hrel
    by_cases hlt : k < len
    · obtain ⟨b, off, A, C, rfl, hbs, hcell⟩ := hc (by omega)
      obtain ⟨c1, c2, c3⟩ := hcell k hlt
      have d1 := (hB.cell (p := ⟨b, off + k * 2, none⟩) hbs).trans c1
      have d2 := (hB.cell (p := ⟨b, off + k * 2 + 1, none⟩) hbs).trans c2
      have d3 := c3.below hB
      obtain ⟨b', off', A', C', rfl, hbs', hcell'⟩ := hc' (by omega)
      obtain ⟨c1', c2', c3'⟩ := hcell' k hlt
      have d1' := (hB.cell (p := ⟨b', off' + k * 2, none⟩) hbs').trans c1'
      have d2' := (hB.cell (p := ⟨b', off' + k * 2 + 1, none⟩) hbs').trans c2'
      have d3' := c3'.below hB
      clear hcell hc c1 c2 c3 hcell' hc' c1' c2' c3'
      go_wp2
      go_region_with (go_at_call 33; refine (eqEpoch_same _ _ _ _ _ _ _ _ (by exact d3.same rfl) (by exact d3'.same rfl)).mono ?_; rintro e w' ⟨rfl, hB2⟩)
      all_goals
        go_wp2
        go_roundw
        case rel => exact ⟨k + 1, by omega, by go_num, hB.trans ((below_from (w := wr) hB2 rfl rfl rfl rfl).mono hB.size)⟩
        case measure => simp [intOf]; omega
    · have hke : k = len := by omega
      subst hke
      go_wp2
      go_ret
      exact ⟨rfl, hB⟩

end Go.Proofs.YtcolcnkjcagbaaaDoor.Ep
