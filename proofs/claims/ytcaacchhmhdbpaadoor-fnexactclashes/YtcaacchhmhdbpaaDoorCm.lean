/-
  Commitments as slices: the laws' own functions over them (sizes). No condition but that the slices read.
-/
import Derived.Test.YtcaacchhmhdbpaaDoorCom
namespace Go.Proofs.YtcaacchhmhdbpaaDoor
open Go.RowKit
set_option linter.unusedVariables false

set_option maxHeartbeats 1000000 in
theorem szCm2 (a c : Int) (u : Option Addr) (len cap : Nat) (S : Nat → ByteArray) (w : World) (h : IsStrs w u len cap S) (hS : ∀ i, i < len → (S i).size ≤ 9223372036854775807) (L : Int) (hL0 : 0 ≤ L) (hL1 : L ≤ 1048576) :
    Calls Tryd.prog 16 #[.agg #[.int .i64 a, .int .i64 c, .slice u len cap], .int .i64 L] w fun e w' => ∃ r : Int, e = .returned (.int .i64 r) ∧ (r < 0 ∨ (0 ≤ r ∧ r ≤ L ∧ len ≤ 1048576 ∧ ∀ i, i < len → (S i).size ≤ 1048576)) ∧ Below w.heap.size w w' := by
  have HB : Hid (∀ o, Below w.heap.size w (w.alloc o)) := fun o => (Below.refl _ _).alloc (Nat.le_refl _) _
  have HI : Hid (∀ o, IsStrs (w.alloc o) u len cap S) := fun o => h.below ((Below.refl _ _).alloc (Nat.le_refl _) _)
  have HSS : Hid (∀ i, i < len → (S i).size ≤ 9223372036854775807) := hS
  clear h hS
  go_enter Tryd.func16, Tryd.ntmps16
  go_wp2_with fail
  refine (szStrings2 u len cap S _ (HI.out _) _ (by omega) (by omega) HSS.out).mono ?_
  rintro e w1 ⟨r, rfl, hr, rfl⟩
  have HR : Hid (_) := hr
  by_cases h3 : r < 0
  · clear hr
    go_wp2
    go_ret
    exact ⟨_, rfl, .inl (by decide), HB.out _⟩
  · clear hr
    go_wp2
    go_ret
    refine ⟨_, rfl, ?_, HB.out _⟩
    rcases HR.out with hr | ⟨hr0, hrl, hr1, hr2⟩
    · exact absurd hr (by omega)
    · exact .inr ⟨hr0, by omega, hr1, hr2⟩


/-- a commitment as plain data: its fields, where its heads lie and what they are -/
structure Cm where
  a : Int
  c : Int
  u : Option Addr
  n : Nat
  cap : Nat
  S : Nat → ByteArray

/-- commitment d lies at place o of block b -/
structure CmAt (w : World) (b o : Nat) (d : Cm) : Prop where
  c0 : w.cell? ⟨b, o, none⟩ = some (.int .i64 d.a)
  c1 : w.cell? ⟨b, o + 1, none⟩ = some (.int .i64 d.c)
  c2 : w.cell? ⟨b, o + 2, none⟩ = some (.slice d.u d.n d.cap)
  i : IsStrs w d.u d.n d.cap d.S
theorem CmAt.below {w w' : World} {b o : Nat} {d : Cm} (h : CmAt w b o d) (hB : Below w.heap.size w w') : CmAt w' b o d :=
  ⟨(hB.cell (p := ⟨b, o, none⟩) (cell_lt h.c0)).trans h.c0, (hB.cell (p := ⟨b, o + 1, none⟩) (cell_lt h.c0)).trans h.c1, (hB.cell (p := ⟨b, o + 2, none⟩) (cell_lt h.c0)).trans h.c2, h.i.below hB⟩

/-- a slice of commitments that reads as D 0, D 1, .. -/
def IsCms (w : World) (a : Option Addr) (len cap : Nat) (D : Nat → Cm) : Prop :=
  len ≤ cap ∧ cap ≤ 9223372036854775807 ∧ (0 < len → ∃ b off, a = some ⟨b, off, none⟩ ∧ b < w.heap.size ∧ ∀ i, i < len → CmAt w b (off + i * 3) (D i))
theorem IsCms.below {w w' : World} {a : Option Addr} {len cap : Nat} {D : Nat → Cm} (h : IsCms w a len cap D) (hB : Below w.heap.size w w') : IsCms w' a len cap D := by
  obtain ⟨h1, h2, h3⟩ := h
  refine ⟨h1, h2, fun hp => ?_⟩
  obtain ⟨b, off, e, hb, hc⟩ := h3 hp
  exact ⟨b, off, e, by have := hB.size; omega, fun i hi => (hc i hi).below hB⟩

/-- every text of these commitments has a length -/
def CFine (D : Nat → Cm) (len : Nat) : Prop := ∀ i, i < len → ∀ j, j < (D i).n → ((D i).S j).size ≤ 9223372036854775807

/-- the same commitment, its heads laid elsewhere -/
structure Cm.Like (d e : Cm) : Prop where
  a : d.a = e.a
  c : d.c = e.c
  n : d.n = e.n
  S : d.S = e.S
theorem Cm.Like.refl (d : Cm) : d.Like d := ⟨rfl, rfl, rfl, rfl⟩

set_option maxHeartbeats 1000000 in
theorem szCms_any (a : Option Addr) (len cap : Nat) (D : Nat → Cm) (w : World) (h : IsCms w a len cap D) (hF : CFine D len) (L : Int) (hL0 : 0 ≤ L) (hL1 : L ≤ 1048576) :
    Calls Tryd.prog 5 #[.slice a len cap, .int .i64 L] w fun e w' => ∃ r : Int, e = .returned (.int .i64 r) ∧ (r < 0 ∨ (0 ≤ r ∧ r ≤ L ∧ len ≤ 1048576 ∧ ∀ i, i < len → (D i).n ≤ 1048576 ∧ ∀ j, j < (D i).n → ((D i).S j).size ≤ 1048576)) ∧ Below w.heap.size w w' := by
  obtain ⟨hlc, hcm, hc⟩ := h
  by_cases hneg : L - (len : Int) < 0
  · go_enter Tryd.func5, Tryd.ntmps5
    go_wp2
    go_ret
    exact ⟨_, rfl, .inl (by decide), Below.refl _ _⟩
  have hlen : len ≤ 1048576 := by omega
  go_enter Tryd.func5, Tryd.ntmps5
  go_wp2
  go_loopw [1, 5] (fun x i wr => ∃ (k : Nat) (r : Int), k ≤ len ∧ i = .int .i64 k ∧ x = .int .i64 r ∧ 0 ≤ r ∧ r ≤ L ∧ Hid (∀ j, j < k → (D j).n ≤ 1048576 ∧ ∀ q, q < (D j).n → ((D j).S q).size ≤ 1048576) ∧ Below w.heap.size w wr) (fun _ i _ => len - (intOf i).toNat)
  case atStart => exact ⟨0, _, Nat.zero_le _, rfl, rfl, by omega, by omega, fun j hj => absurd hj (Nat.not_lt_zero _), Below.refl _ _⟩
  case round =>
    obtain ⟨k, r, hk, rfl, rfl, hr0, hr1, HA, hB⟩ := hrel
    by_cases hlt : k < len
    · obtain ⟨b, off, rfl, hbs, hcell⟩ := hc (by omega)
      obtain ⟨c0, c1, c2, ci⟩ : CmAt wr b (off + k * 3) (D k) := by
        have := hcell k hlt
        refine ⟨(hB.cell (p := ⟨b, _, none⟩) hbs).trans this.c0, (hB.cell (p := ⟨b, _, none⟩) hbs).trans this.c1, (hB.cell (p := ⟨b, _, none⟩) hbs).trans this.c2, this.i.below hB⟩
      have hltI : (k : Int) < (len : Int) := by omega
      have hf := hF k hlt
      have HI : Hid (IsStrs wr (D k).u (D k).n (D k).cap (D k).S) := ci
      have HF : Hid (_) := hf
      clear hcell hc ci hF hf
      go_wp2_with fail
      refine (szCm2 _ _ _ _ _ (D k).S _ HI.out HF.out r hr0 (by omega)).mono ?_
      rintro e w1 ⟨r1, rfl, hq, hB1⟩
      have HB1 : Hid (Below w.heap.size w w1) := hB.trans (hB1.mono hB.size)
      clear hB1
      rcases hq with hq | ⟨hq0, hq1, hq2, hq3⟩
      · go_wp2
        go_ret
        exact ⟨_, rfl, .inl (by decide), HB1.out⟩
      · have HA' : Hid (∀ j, j < k + 1 → (D j).n ≤ 1048576 ∧ ∀ q, q < (D j).n → ((D j).S q).size ≤ 1048576) := by
          intro j hj
          rcases Nat.lt_succ_iff_lt_or_eq.1 hj with h1 | rfl
          · exact HA.out j h1
          · exact ⟨hq2, hq3⟩
        clear hq3
        go_wp2
        go_roundw
        case rel => exact ⟨k + 1, _, by omega, by go_num, rfl, by omega, by omega, HA', HB1.out⟩
        case measure => simp [intOf]; omega
    · have hke : k = len := by omega
      subst hke
      go_wp2
      go_ret
      exact ⟨_, rfl, .inr ⟨hr0, hr1, hlen, HA.out⟩, hB⟩
end Go.Proofs.YtcaacchhmhdbpaaDoor
