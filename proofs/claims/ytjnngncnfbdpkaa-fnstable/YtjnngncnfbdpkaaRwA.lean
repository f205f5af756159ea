/-
  Rows: how they read, rows that the call owns, the laws' own functions over them. No condition but that the slices read.
-/
import Derived.Test.YtjnngncnfbdpkaaRwI
namespace Go.Proofs.Ytjnngncnfbdpkaa
open Go.RowKit
set_option linter.unusedVariables false

theorem cellN {w : World} {b i : Nat} {cs : Array Value} {t : TypeId} (h : w.heap[b]? = some (.cells cs t (0, 0))) : w.cell? ⟨b, i, none⟩ = cs[i]? := by simp [World.cell?, h]
theorem frozN {w : World} {b i : Nat} {cs : Array Value} {t : TypeId} (h : w.heap[b]? = some (.cells cs t (0, 0))) : w.frozen? ⟨b, i, none⟩ = false := by simp [World.frozen?, h]

/-- a row as plain data -/
structure Rw where
  who : Int
  cs : List Int
def rwZ : Rw := ⟨0, []⟩
/-- a slice, nil or not, that reads as the rows L -/
def RdR (w : World) (v : Value) (L : List Rw) : Prop :=
  ∃ a cap, v = .slice a L.length cap ∧ L.length ≤ cap ∧ cap ≤ 9223372036854775807 ∧ (0 < L.length → ∃ b off, a = some ⟨b, off, none⟩ ∧ b < w.heap.size ∧
    ∀ i, i < L.length → w.cell? ⟨b, off + i * 2, none⟩ = some (.int .i64 (L.getD i rwZ).who) ∧ ∃ u, w.cell? ⟨b, off + i * 2 + 1, none⟩ = some u ∧ RdI w u (L.getD i rwZ).cs)
theorem RdR.below {w w' : World} {v : Value} {L : List Rw} (h : RdR w v L) (hB : Below w.heap.size w w') : RdR w' v L := by
  obtain ⟨a, cap, rfl, h1, h2, h3⟩ := h
  refine ⟨a, cap, rfl, h1, h2, fun hp => ?_⟩
  obtain ⟨b, off, e, hb, hc⟩ := h3 hp
  refine ⟨b, off, e, Nat.lt_of_lt_of_le hb hB.size, fun i hi => ?_⟩
  obtain ⟨c0, u, c1, c2⟩ := hc i hi
  exact ⟨(hB.cell (p := ⟨b, _, none⟩) hb).trans c0, u, (hB.cell (p := ⟨b, _, none⟩) hb).trans c1, c2.below hB⟩

theorem OwnI.blk {w w' : World} {base : Nat} {v : Value} {L : List Int} (h : OwnI w base v L) (he : ∀ k, v.ownBlock = some k → w'.heap[k]? = w.heap[k]?) : OwnI w' base v L := by
  obtain ⟨h1, h2⟩ := h
  refine ⟨h1, ?_⟩
  rcases h2 with h2 | ⟨g, cap, cur, hv, hb, hh, r⟩
  · exact .inl h2
  · exact .inr ⟨g, cap, cur, hv, hb, (he g (by rw [hv]; rfl)).trans hh, r⟩
/-- rows in memory of the call's own, in blocks from lo on and below hi -/
def OwnR (w : World) (lo hi : Nat) (v : Value) (L : List Rw) : Prop :=
  ∃ (xs : List Value) (u : Nat → Value), w.ownsRow lo 46 2 v L.length xs ∧ (∀ k, v.ownBlock = some k → k < hi) ∧
    (∀ i, i < L.length → xs[i * 2]? = some (.int .i64 (L.getD i rwZ).who) ∧ xs[i * 2 + 1]? = some (u i) ∧ OwnI w lo (u i) (L.getD i rwZ).cs ∧ ∀ k, (u i).ownBlock = some k → k < hi) ∧
    (∀ i j, i < L.length → j < i → ∀ k, (u i).ownBlock = some k → (u j).ownBlock ≠ some k)
theorem own_int {w : World} {base k : Nat} {v : Value} {L : List Int} (h : OwnI w base v L) (hk : v.ownBlock = some k) : ∃ cs, w.heap[k]? = some (.cells cs 2 (0, 0)) := by
  rcases h.2 with ⟨h1, _⟩ | ⟨g, cap, cur, hv, hg, hh, _⟩
  · rw [h1] at hk; cases hk
  · rw [hv] at hk
    have e : some g = some k := hk
    cases e
    exact ⟨_, hh⟩
theorem own_row {w : World} {base k n : Nat} {v : Value} {xs : List Value} (h : w.ownsRow base 46 2 v n xs) (hk : v.ownBlock = some k) : ∃ cs, w.heap[k]? = some (.cells cs 46 (0, 0)) := by
  rcases h.2 with ⟨h1, _⟩ | ⟨g, cap, cur, hv, hg, hh, _⟩
  · rw [h1] at hk; cases hk
  · rw [hv] at hk
    have e : some g = some k := hk
    cases e
    exact ⟨_, hh⟩
theorem row_ne_int {w : World} {b1 b2 k n : Nat} {v v' : Value} {xs : List Value} {L : List Int} (h : w.ownsRow b1 46 2 v n xs) (h' : OwnI w b2 v' L) (hk : v'.ownBlock = some k) : v.ownBlock ≠ some k := fun e => by
  obtain ⟨c1, e1⟩ := own_row h e
  obtain ⟨c2, e2⟩ := own_int h' hk
  rw [e1] at e2
  cases e2
theorem OwnR.at {w w' : World} {lo hi : Nat} {v : Value} {L : List Rw} (h : OwnR w lo hi v L) (he : ∀ k, lo ≤ k → k < hi → w'.heap[k]? = w.heap[k]?) : OwnR w' lo hi v L := by
  obtain ⟨xs, u, h1, h2, h3, h4⟩ := h
  refine ⟨xs, u, ?_, h2, fun i hi' => ?_, h4⟩
  · obtain ⟨q1, q2⟩ := h1
    refine ⟨q1, ?_⟩
    rcases q2 with q2 | ⟨g, cap, cur, hv, hb, hh, r⟩
    · exact .inl q2
    · exact .inr ⟨g, cap, cur, hv, hb, (he g hb (h2 g (by rw [hv]; rfl))).trans hh, r⟩
  · obtain ⟨c0, c1, c2, c3⟩ := h3 i hi'
    exact ⟨c0, c1, c2.blk (fun k hk => he k (World.ownsRow.lt c2 k hk).1 (c3 k hk)), c3⟩
theorem OwnR.lt {w : World} {lo hi : Nat} {v : Value} {L : List Rw} (h : OwnR w lo hi v L) (hh : hi ≤ w.heap.size) : OwnR w lo w.heap.size v L := by
  obtain ⟨xs, u, h1, h2, h3, h4⟩ := h
  exact ⟨xs, u, h1, fun k hk => Nat.lt_of_lt_of_le (h2 k hk) hh, fun i hi' => ⟨(h3 i hi').1, (h3 i hi').2.1, (h3 i hi').2.2.1, fun k hk => Nat.lt_of_lt_of_le ((h3 i hi').2.2.2 k hk) hh⟩, h4⟩
theorem OwnR.below {w w' : World} {lo hi : Nat} {v : Value} {L : List Rw} (h : OwnR w lo hi v L) (hh : hi ≤ w.heap.size) (hB : Below w.heap.size w w') : OwnR w' lo hi v L :=
  h.at fun k _ hk => hB.block k (Nat.lt_of_lt_of_le hk hh)
theorem OwnR.slice {w : World} {lo hi : Nat} {v : Value} {L : List Rw} (h : OwnR w lo hi v L) : (v = .slice none 0 0 ∧ L = []) ∨ ∃ g cap, v = .slice (some ⟨g, 0, none⟩) L.length cap ∧ L.length ≤ cap ∧ cap ≤ 9223372036854775807 ∧ lo ≤ g ∧ g < w.heap.size := by
  obtain ⟨xs, u, h1, h2, h3, h4⟩ := h
  rcases h1.2 with ⟨q1, q2⟩ | ⟨g, cap, cur, hv, hb, hh, r1, r2, _⟩
  · exact .inl ⟨q1, List.length_eq_zero_iff.1 q2⟩
  · unfold maxLen at r2
    exact .inr ⟨g, cap, hv, r1, by omega, hb, lt_of_block hh⟩
theorem OwnR.rd {w : World} {lo hi : Nat} {v : Value} {L : List Rw} (h : OwnR w lo hi v L) : RdR w v L := by
  rcases h.slice with ⟨rfl, rfl⟩ | ⟨g, cap, rfl, hc1, hc2, _, hg⟩
  · exact ⟨none, 0, rfl, Nat.le_refl _, by omega, fun h => absurd h (Nat.lt_irrefl _)⟩
  · obtain ⟨xs, u, h1, h2, h3, h4⟩ := h
    refine ⟨_, cap, rfl, hc1, hc2, fun _ => ⟨g, 0, rfl, hg, fun i hi => ?_⟩⟩
    obtain ⟨c0, c1, c2, c3⟩ := h3 i hi
    refine ⟨?_, u i, ?_, c2.rd⟩
    · rw [Nat.zero_add, h1.cellAt _ (by omega)]; exact c0
    · rw [Nat.zero_add, h1.cellAt _ (by omega)]; exact c1

theorem szRow_any (x : Rw) (u : Value) (left : Int) (w : World) (h : RdI w u x.cs) (h0 : 0 ≤ left) (h1 : left ≤ 1048576) :
    Calls Try.prog 22 #[.agg #[.int .i64 x.who, u], .int .i64 left] w fun e w' => e = .returned (.int .i64 (if left - (x.cs.length : Int) < 0 then -1 else left - (x.cs.length : Int))) ∧ Below w.heap.size w w' := by
  obtain ⟨a, cap, hu, _⟩ := h.shape
  subst hu
  have HB : Hid (∀ o, Below w.heap.size w (w.alloc o)) := fun o => (Below.refl _ _).alloc (Nat.le_refl _) _
  have HI : Hid (∀ o, RdI (w.alloc o) (.slice a x.cs.length cap) x.cs) := fun o => h.below (HB.out o)
  by_cases hs : left - (x.cs.length : Int) < 0
  · go_enter Try.func22, Try.ntmps22
    go_wp2_with (go_at_call 40; refine (szI_any _ _ _ _ (HI.out _) h0 h1).mono ?_; rintro e w' ⟨rfl, rfl⟩; rw [if_pos hs])
    go_ret
    exact ⟨rfl, HB.out _⟩
  · go_enter Try.func22, Try.ntmps22
    go_wp2_with (go_at_call 40; refine (szI_any _ _ _ _ (HI.out _) h0 h1).mono ?_; rintro e w' ⟨rfl, rfl⟩; rw [if_neg hs])
    go_ret
    exact ⟨rfl, HB.out _⟩

set_option maxHeartbeats 1000000 in
theorem szRows_any (v : Value) (L : List Rw) (w : World) (h : RdR w v L) (l0 : Int) (hl0 : 0 ≤ l0) (hl1 : l0 ≤ 1048576) :
    Calls Try.prog 6 #[v, .int .i64 l0] w fun e w' => ∃ r : Int, e = .returned (.int .i64 r) ∧ (r < 0 ∨ (0 ≤ r ∧ r ≤ l0 ∧ L.length ≤ 1048576 ∧ ∀ i, i < L.length → (L.getD i rwZ).cs.length ≤ 1048576)) ∧ Below w.heap.size w w' := by
  obtain ⟨a, cap, rfl, hlc, hcm, hc⟩ := h
  obtain ⟨len, hl⟩ : ∃ len, len = L.length := ⟨_, rfl⟩
  rw [← hl] at hlc hc ⊢
  clear hl
  by_cases h0 : l0 - (len : Int) < 0
  · go_enter Try.func6, Try.ntmps6
    go_wp2
    go_ret
    exact ⟨_, rfl, .inl (by decide), Below.refl _ _⟩
  · have h0' : 0 ≤ l0 - (len : Int) := by omega
    go_enter Try.func6, Try.ntmps6
    go_wp2
    go_loopw [1, 5] (fun l i wr => ∃ (k : Nat) (r : Int), k ≤ len ∧ i = .int .i64 k ∧ l = .int .i64 r ∧ 0 ≤ r ∧ r ≤ l0 ∧ Hid (∀ j, j < k → (L.getD j rwZ).cs.length ≤ 1048576) ∧ Below w.heap.size w wr)
      (fun _ i _ => len - (intOf i).toNat)
    case atStart => exact ⟨0, _, Nat.zero_le _, rfl, rfl, by omega, by omega, fun j hj => absurd hj (Nat.not_lt_zero _), Below.refl _ _⟩
    case round =>
      obtain ⟨k, r, hk, rfl, rfl, hr0, hr1, HA, hB⟩ := hrel
      by_cases hlt : k < len
      · obtain ⟨b, off, rfl, hbs, hcell⟩ := hc (by omega)
        obtain ⟨c0, u, c1, c2⟩ := hcell k hlt
        have d1 := (hB.cell (p := ⟨b, off + k * 2, none⟩) hbs).trans c0
        have d2 := (hB.cell (p := ⟨b, off + k * 2 + 1, none⟩) hbs).trans c1
        have d3 := c2.below (hB.mono (Nat.le_refl _))
        obtain ⟨y, hy⟩ : ∃ y, y = L.getD k rwZ := ⟨_, rfl⟩
        rw [← hy] at d1 d3
        have HY : Hid (y = L.getD k rwZ) := hy
        have HI : Hid (RdI wr u y.cs) := d3
        clear hcell hc c0 c1 c2 hy d3
        by_cases hs : r - (y.cs.length : Int) < 0
        · go_wp2_with (go_at_call 22; refine (szRow_any y u _ _ HI.out hr0 (by omega)).mono ?_; rintro e w' ⟨rfl, hB2⟩; rw [if_pos hs])
          go_ret
          exact ⟨_, rfl, .inl (by decide), hB.trans (hB2.mono hB.size)⟩
        · go_wp2_with (go_at_call 22; refine (szRow_any y u _ _ HI.out hr0 (by omega)).mono ?_; rintro e w' ⟨rfl, hB2⟩; rw [if_neg hs])
          go_roundw
          case rel =>
            refine ⟨k + 1, _, by omega, by go_num, rfl, by omega, by omega, fun j hj => ?_, hB.trans (hB2.mono hB.size)⟩
            rcases Nat.lt_succ_iff_lt_or_eq.1 hj with h1 | rfl
            · exact HA.out j h1
            · rw [← HY.out]; omega
          case measure => simp [intOf]; omega
      · have hke : k = len := by omega
        subst hke
        go_wp2
        go_ret
        exact ⟨_, rfl, .inr ⟨hr0, hr1, by omega, HA.out⟩, hB⟩
end Go.Proofs.Ytjnngncnfbdpkaa
