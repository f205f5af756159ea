/-
  Dags as slices of nodes: the laws' own functions over them. No condition but that the slices read.
-/
import Derived.Test.YtlibipbpaigmdaaGreatDoorNode4
namespace Go.Proofs.YtlibipbpaigmdaaGreatDoor
open Go.RowKit
set_option linter.unusedVariables false

set_option maxHeartbeats 400000 in
theorem szStrings2 (a : Option Addr) (len cap : Nat) (S : Nat → ByteArray) (w : World) (h : IsStrs w a len cap S) (L : Int) (hL0 : 0 ≤ L) (hL : L ≤ 1048576) (hS : ∀ i, i < len → (S i).size ≤ 9223372036854775807) :
    Calls Tryz.prog 27 #[.slice a len cap, .int .i64 L] w fun e w' => ∃ r : Int, e = .returned (.int .i64 r) ∧ (r < 0 ∨ (0 ≤ r ∧ r ≤ L ∧ len ≤ 1048576 ∧ ∀ i, i < len → (S i).size ≤ 1048576)) ∧ w' = w := by
  obtain ⟨hlc, hcm, hc⟩ := h
  by_cases hneg : L - (len : Int) < 0
  · go_enter Tryz.func27, Tryz.ntmps27
    go_wp2
    go_ret
    exact ⟨_, rfl, .inl (by decide), rfl⟩
  have hlen : len ≤ 1048576 := by omega
  go_enter Tryz.func27, Tryz.ntmps27
  go_wp2
  go_loop [1, 5] (fun x i => ∃ (k : Nat) (r : Int), k ≤ len ∧ i = .int .i64 k ∧ x = .int .i64 r ∧ 0 ≤ r ∧ r ≤ L ∧ Hid (∀ j, j < k → (S j).size ≤ 1048576)) (fun _ i => len - (intOf i).toNat)
  case atStart => exact ⟨0, _, Nat.zero_le _, rfl, rfl, by omega, by omega, fun j hj => absurd hj (Nat.not_lt_zero _)⟩
  case round =>
    obtain ⟨k, r, hk, rfl, rfl, hr0, hr1, HA⟩ := hrel
    by_cases hlt : k < len
    · obtain ⟨b, off, rfl, hbs, hcell⟩ := hc (by omega)
      have d1 := hcell k hlt
      have hsz := hS k hlt
      have hltI : (k : Int) < (len : Int) := by omega
      clear hcell hc
      by_cases hng : r - ((S k).size : Int) < 0
      · go_wp2
        go_ret
        exact ⟨_, rfl, .inl (by decide), rfl⟩
      · have HA' : Hid (∀ j, j < k + 1 → (S j).size ≤ 1048576) := by
          intro j hj
          rcases Nat.lt_succ_iff_lt_or_eq.1 hj with h1 | rfl
          · exact HA.out j h1
          · omega
        go_wp2
        go_round
        case rel => exact ⟨k + 1, _, by omega, by go_num, rfl, by omega, by omega, HA'⟩
        case measure => simp [intOf]; omega
    · have hke : k = len := by omega
      subst hke
      go_wp2
      go_ret
      exact ⟨_, rfl, .inr (by first | exact ⟨hr0, hr1, hlen, HA.out⟩ | exact ⟨hr0, hr1, HA.out⟩ | (refine ⟨hr0, by omega, ?_⟩; exact HA.out)), rfl⟩


set_option maxHeartbeats 1000000 in
theorem szNode2 (a s k : Int) (key text : ByteArray) (u : Option Addr) (len cap : Nat) (S : Nat → ByteArray) (w : World) (h : IsStrs w u len cap S) (hS : ∀ i, i < len → (S i).size ≤ 9223372036854775807) (hkey : key.size ≤ 9223372036854775807) (htext : text.size ≤ 9223372036854775807) (L : Int) (hL0 : 0 ≤ L) (hL1 : L ≤ 1048576) :
    Calls Tryz.prog 82 #[.agg #[.int .i64 a, .int .i64 s, .int .i64 k, .string key, .string text, .slice u len cap], .int .i64 L] w fun e w' => ∃ r : Int, e = .returned (.int .i64 r) ∧ (r < 0 ∨ (0 ≤ r ∧ r ≤ L ∧ key.size ≤ 1048576 ∧ text.size ≤ 1048576 ∧ len ≤ 1048576 ∧ ∀ i, i < len → (S i).size ≤ 1048576)) ∧ Below w.heap.size w w' := by
  have HB : Hid (∀ o, Below w.heap.size w (w.alloc o)) := fun o => (Below.refl _ _).alloc (Nat.le_refl _) _
  have HI : Hid (∀ o, IsStrs (w.alloc o) u len cap S) := fun o => h.below ((Below.refl _ _).alloc (Nat.le_refl _) _)
  have HSS : Hid (∀ i, i < len → (S i).size ≤ 9223372036854775807) := hS
  clear h hS
  by_cases h1 : L - (key.size : Int) < 0
  · go_enter Tryz.func82, Tryz.ntmps82
    go_wp2
    go_ret
    exact ⟨_, rfl, .inl (by decide), HB.out _⟩
  by_cases h2 : L - (key.size : Int) - (text.size : Int) < 0
  · go_enter Tryz.func82, Tryz.ntmps82
    go_wp2
    go_ret
    exact ⟨_, rfl, .inl (by decide), HB.out _⟩
  go_enter Tryz.func82, Tryz.ntmps82
  go_wp2_with fail
  refine (szStrings2 u len cap S _ (HI.out _) _ (by omega) (by omega) HSS.out).mono ?_
  rintro e w1 ⟨r, rfl, hr, rfl⟩
  have HR : Hid (_) := hr
  by_cases h3 : r < 0
  · clear hr
    go_wp2
    go_ret
    exact ⟨_, rfl, .inl (by decide), HB.out _⟩
  · clear hr
    go_wp2
    go_ret
    refine ⟨_, rfl, ?_, HB.out _⟩
    rcases HR.out with hr | ⟨hr0, hrl, hr1, hr2⟩
    · exact absurd hr (by omega)
    · exact .inr ⟨hr0, by omega, by omega, by omega, hr1, hr2⟩


/-- a node as plain data: its fields, where its ups lie and what they are -/
structure Nd where
  a : Int
  s : Int
  k : Int
  key : ByteArray
  text : ByteArray
  u : Option Addr
  n : Nat
  cap : Nat
  S : Nat → ByteArray

/-- node d lies at place o of block b -/
structure NdAt (w : World) (b o : Nat) (d : Nd) : Prop where
  c0 : w.cell? ⟨b, o, none⟩ = some (.int .i64 d.a)
  c1 : w.cell? ⟨b, o + 1, none⟩ = some (.int .i64 d.s)
  c2 : w.cell? ⟨b, o + 2, none⟩ = some (.int .i64 d.k)
  c3 : w.cell? ⟨b, o + 3, none⟩ = some (.string d.key)
  c4 : w.cell? ⟨b, o + 4, none⟩ = some (.string d.text)
  c5 : w.cell? ⟨b, o + 5, none⟩ = some (.slice d.u d.n d.cap)
  i : IsStrs w d.u d.n d.cap d.S
theorem NdAt.below {w w' : World} {b o : Nat} {d : Nd} (h : NdAt w b o d) (hB : Below w.heap.size w w') : NdAt w' b o d :=
  ⟨(hB.cell (p := ⟨b, o, none⟩) (cell_lt h.c0)).trans h.c0, (hB.cell (p := ⟨b, o + 1, none⟩) (cell_lt h.c0)).trans h.c1, (hB.cell (p := ⟨b, o + 2, none⟩) (cell_lt h.c0)).trans h.c2, (hB.cell (p := ⟨b, o + 3, none⟩) (cell_lt h.c0)).trans h.c3, (hB.cell (p := ⟨b, o + 4, none⟩) (cell_lt h.c0)).trans h.c4, (hB.cell (p := ⟨b, o + 5, none⟩) (cell_lt h.c0)).trans h.c5, h.i.below hB⟩

/-- a slice of nodes that reads as D 0, D 1, .. -/
def IsNds (w : World) (a : Option Addr) (len cap : Nat) (D : Nat → Nd) : Prop :=
  len ≤ cap ∧ cap ≤ 9223372036854775807 ∧ (0 < len → ∃ b off, a = some ⟨b, off, none⟩ ∧ b < w.heap.size ∧ ∀ i, i < len → NdAt w b (off + i * 6) (D i))
theorem IsNds.below {w w' : World} {a : Option Addr} {len cap : Nat} {D : Nat → Nd} (h : IsNds w a len cap D) (hB : Below w.heap.size w w') : IsNds w' a len cap D := by
  obtain ⟨h1, h2, h3⟩ := h
  refine ⟨h1, h2, fun hp => ?_⟩
  obtain ⟨b, off, e, hb, hc⟩ := h3 hp
  exact ⟨b, off, e, by have := hB.size; omega, fun i hi => (hc i hi).below hB⟩

/-- every text of these nodes has a length -/
def Fine (D : Nat → Nd) (len : Nat) : Prop := ∀ i, i < len → (D i).key.size ≤ 9223372036854775807 ∧ (D i).text.size ≤ 9223372036854775807 ∧ ∀ j, j < (D i).n → ((D i).S j).size ≤ 9223372036854775807

/-- the same node, its ups laid elsewhere -/
structure Nd.Like (d e : Nd) : Prop where
  a : d.a = e.a
  s : d.s = e.s
  k : d.k = e.k
  key : d.key = e.key
  text : d.text = e.text
  n : d.n = e.n
  S : d.S = e.S
theorem Nd.Like.refl (d : Nd) : d.Like d := ⟨rfl, rfl, rfl, rfl, rfl, rfl, rfl⟩

set_option maxHeartbeats 1000000 in
theorem szNodeS_any (a : Option Addr) (len cap : Nat) (D : Nat → Nd) (w : World) (h : IsNds w a len cap D) (hF : Fine D len) :
    Calls Tryz.prog 15 #[.slice a len cap, .int .i64 1048576] w fun e w' => ∃ r : Int, e = .returned (.int .i64 r) ∧ (r < 0 ∨ (0 ≤ r ∧ len ≤ 1048576 ∧ ∀ i, i < len → (D i).n ≤ 1048576)) ∧ Below w.heap.size w w' := by
  obtain ⟨hlc, hcm, hc⟩ := h
  by_cases hneg : (1048576 : Int) - (len : Int) < 0
  · go_enter Tryz.func15, Tryz.ntmps15
    go_wp2
    go_ret
    exact ⟨_, rfl, .inl (by decide), Below.refl _ _⟩
  have hlen : len ≤ 1048576 := by omega
  go_enter Tryz.func15, Tryz.ntmps15
  go_wp2
  go_loopw [1, 5] (fun x i wr => ∃ (k : Nat) (r : Int), k ≤ len ∧ i = .int .i64 k ∧ x = .int .i64 r ∧ 0 ≤ r ∧ r ≤ 1048576 ∧ Hid (∀ j, j < k → (D j).n ≤ 1048576) ∧ Below w.heap.size w wr) (fun _ i _ => len - (intOf i).toNat)
  case atStart => exact ⟨0, _, Nat.zero_le _, rfl, rfl, by omega, by omega, fun j hj => absurd hj (Nat.not_lt_zero _), Below.refl _ _⟩
  case round =>
    obtain ⟨k, r, hk, rfl, rfl, hr0, hr1, HA, hB⟩ := hrel
    by_cases hlt : k < len
    · obtain ⟨b, off, rfl, hbs, hcell⟩ := hc (by omega)
      obtain ⟨c0, c1, c2, c3, c4, c5, ci⟩ : NdAt wr b (off + k * 6) (D k) := by
        have := hcell k hlt
        refine ⟨(hB.cell (p := ⟨b, _, none⟩) hbs).trans this.c0, (hB.cell (p := ⟨b, _, none⟩) hbs).trans this.c1, (hB.cell (p := ⟨b, _, none⟩) hbs).trans this.c2, (hB.cell (p := ⟨b, _, none⟩) hbs).trans this.c3, (hB.cell (p := ⟨b, _, none⟩) hbs).trans this.c4, (hB.cell (p := ⟨b, _, none⟩) hbs).trans this.c5, this.i.below hB⟩
      have hltI : (k : Int) < (len : Int) := by omega
      have hf := hF k hlt
      have HI : Hid (IsStrs wr (D k).u (D k).n (D k).cap (D k).S) := ci
      clear hcell hc ci hF
      go_wp2_with fail
      refine (szNode2 _ _ _ _ _ _ _ _ (D k).S _ HI.out hf.2.2 hf.1 hf.2.1 r hr0 hr1).mono ?_
      rintro e w1 ⟨r1, rfl, hq, hB1⟩
      have HB1 : Hid (Below w.heap.size w w1) := hB.trans (hB1.mono hB.size)
      clear hB1
      rcases hq with hq | ⟨hq0, hq1, _, _, hq2, _⟩
      · go_wp2
        go_ret
        exact ⟨_, rfl, .inl (by decide), HB1.out⟩
      · have HA' : Hid (∀ j, j < k + 1 → (D j).n ≤ 1048576) := by
          intro j hj
          rcases Nat.lt_succ_iff_lt_or_eq.1 hj with h1 | rfl
          · exact HA.out j h1
          · exact hq2
        go_wp2
        go_roundw
        case rel => exact ⟨k + 1, _, by omega, by go_num, rfl, by omega, by omega, HA', HB1.out⟩
        case measure => simp [intOf]; omega
    · have hke : k = len := by omega
      subst hke
      go_wp2
      go_ret
      exact ⟨_, rfl, .inr ⟨hr0, hlen, HA.out⟩, hB⟩
end Go.Proofs.YtlibipbpaigmdaaGreatDoor
