/-
  Beats held against each other, and the drawings of the laws of beats. Condition: the code reads as bytes.
-/
import Derived.Test.YtnjlegphohmajaaBdD
import Derived.Test.YtnjlegphohmajaaBtNi
namespace Go.Proofs.Ytnjlegphohmajaa
open Go.RowKit
set_option linter.unusedVariables false

/-- a slice, nil or not, that reads as the beats L -/
def RdV (w : World) (v : Value) (L : List Ev) : Prop := ∃ a cap, v = .slice a L.length cap ∧ IsEvs w a L.length cap (fun i => L.getD i evZ)
theorem RdV.below {w w' : World} {v : Value} {L : List Ev} (h : RdV w v L) (hB : Below w.heap.size w w') : RdV w' v L := by
  obtain ⟨a, cap, e, hI⟩ := h
  exact ⟨a, cap, e, hI.below hB⟩
theorem OwnV.rd {w : World} {base : Nat} {v : Value} {L : List Ev} (h : OwnV w base v L) : RdV w v L := h.evs
theorem OwnE.rd {w : World} {base g cap : Nat} {L : List Ev} (h : OwnE w base g cap L) : RdV w (.slice (some ⟨g, 0, none⟩) L.length cap) L := ⟨_, _, rfl, h.evs⟩

set_option maxHeartbeats 1000000 in
theorem same_any (v v' : Value) (L : List Ev) (w : World) (h : RdV w v L) (h' : RdV w v' L) :
    Calls Try.prog 12 #[v, v'] w fun e w' => e = .returned (.bool true) ∧ Below w.heap.size w w' := by
  obtain ⟨a, cap, rfl, hlc, hcm, hc⟩ := h
  obtain ⟨a', cap', rfl, hlc', hcm', hc'⟩ := h'
  obtain ⟨len, hlen⟩ : ∃ len, len = L.length := ⟨_, rfl⟩
  rw [← hlen] at hlc hlc' hc hc' ⊢
  clear hlen
  have hbn : ((len : Int) != (len : Int)) = false := by simp
  go_enter Try.func12, Try.ntmps12
  go_wp2
  go_loopw [5] (fun i wr => ∃ (k : Nat), k ≤ len ∧ i = .int .i64 k ∧ Below w.heap.size w wr) (fun i _ => len - (intOf i).toNat)
  case atStart => exact ⟨0, Nat.zero_le _, rfl, Below.refl _ _⟩
  case round =>
    obtain ⟨k, hk, rfl, hB⟩ := hrel
    by_cases hlt : k < len
    · obtain ⟨b, off, rfl, hbs, hcell⟩ := hc (by omega)
      obtain ⟨b', off', rfl, hbs', hcell'⟩ := hc' (by omega)
      have m1 : EvAt wr b (off + k * 4) (L.getD k evZ) := (hcell k hlt).grow hbs hB
      have m2 : EvAt wr b' (off' + k * 4) (L.getD k evZ) := (hcell' k hlt).grow hbs' hB
      obtain ⟨y, hy⟩ : ∃ y, y = L.getD k evZ := ⟨_, rfl⟩
      rw [← hy] at m1 m2
      have hltI : (k : Int) < (len : Int) := by omega
      have q0 : ∀ s : Later wr, s.val.cell? ⟨b, off + k * 4, none⟩ = some (.int .i64 y.a) := fun s => s.cell m1.c0
      have q1 : ∀ s : Later wr, s.val.cell? ⟨b, off + k * 4 + 1, none⟩ = some (.int .i64 y.b) := fun s => s.cell m1.c1
      have q2 : ∀ s : Later wr, s.val.cell? ⟨b, off + k * 4 + 2, none⟩ = some (.int .i64 y.c) := fun s => s.cell m1.c2
      have q3 : ∀ s : Later wr, s.val.cell? ⟨b, off + k * 4 + 3, none⟩ = some (.string y.d) := fun s => s.cell m1.c3
      have r0 : ∀ s : Later wr, s.val.cell? ⟨b', off' + k * 4, none⟩ = some (.int .i64 y.a) := fun s => s.cell m2.c0
      have r1 : ∀ s : Later wr, s.val.cell? ⟨b', off' + k * 4 + 1, none⟩ = some (.int .i64 y.b) := fun s => s.cell m2.c1
      have r2 : ∀ s : Later wr, s.val.cell? ⟨b', off' + k * 4 + 2, none⟩ = some (.int .i64 y.c) := fun s => s.cell m2.c2
      have r3 : ∀ s : Later wr, s.val.cell? ⟨b', off' + k * 4 + 3, none⟩ = some (.string y.d) := fun s => s.cell m2.c3
      have hql : ∀ w, (binOp .neq 32 (.agg #[.int .i64 y.a, .int .i64 y.b, .int .i64 y.c, .string y.d]) (.agg #[.int .i64 y.a, .int .i64 y.b, .int .i64 y.c, .string y.d])).run Try.prog w = .ok (.bool false) w := fun w => by rw [neqE, Ev.same_refl]; rfl
      have hgd : ∀ op p q w, (eqGuard op 32 p q (.agg #[.int .i64 y.a, .int .i64 y.b, .int .i64 y.c, .string y.d]) (.agg #[.int .i64 y.a, .int .i64 y.b, .int .i64 y.c, .string y.d])).run Try.prog w = .ok () w := fun op p q w => guardE op p q y y w
      have hne := Later.any wr
      clear hcell hcell' hc hc' m1 m2 hy
      go_wp2
      refine wp_region_later (by kernel_rfl) (by kernel_rfl) ?_
      repeat (go_big_quiet_step (fail))
      refine wpQuiet_nil ?_
      rintro _ ⟨⟨w', hB2⟩, rfl⟩
      go_wp2
      go_roundw
      case rel => exact ⟨k + 1, by omega, by go_num, hB.trans (hB2.mono hB.size)⟩
      case measure => simp [intOf]; omega
    · have hke : k = len := by omega
      subst hke
      go_wp2
      go_ret
      exact ⟨rfl, hB⟩

/-- what is known of drawn beats -/
def Drawn (L : List Ev) : Prop := UpB L ∧ ∀ x ∈ L, 1 ≤ x.a ∧ x.a ≤ 5 ∧ x.in

section
variable {W : World} {a : Option Addr} {len cap : Nat} {Z : Nat → Int}

set_option maxHeartbeats 1000000 in
theorem drawMerged_any (hU : IsU8 W a len cap Z) :
    Calls Try.prog 15 #[.slice a len cap] W fun e w' => ∃ g1 c1 A g2 c2 B, e = .returned (.tuple #[.slice (some ⟨g1, 0, none⟩) A.length c1, .slice (some ⟨g2, 0, none⟩) B.length c2]) ∧ Drawn A ∧ Drawn B ∧ OwnE w' W.heap.size g1 c1 A ∧ OwnE w' W.heap.size g2 c2 B ∧ Below W.heap.size W w' := by
  go_enter Try.func15, Try.ntmps15
  go_wp2_with fail
  refine (open_any _ _ _ _).mono ?_
  rintro e w1 ⟨rfl, hD1⟩
  go_wp2_with fail
  refine (beats_any 8 (by omega) (by omega) hU w1 hD1).mono ?_
  rintro e w2 ⟨g1, c1, A, rfl, hA, hO1, hD2, hM2⟩
  have hg1 : g1 ≠ W.heap.size := by have := hO1.lies.2.2; have := hD1.lt; omega
  have hs1 := hD1.bel.size
  have hs2 := hD2.bel.size
  go_wp2_with fail
  refine (beats_any 8 (by omega) (by omega) hU w2 hD2).mono ?_
  rintro e w3 ⟨g2, c2, B, rfl, hB, hO2, hD3, hM3⟩
  have HF : Hid (OwnE w3 W.heap.size g1 c1 A ∧ OwnE w3 W.heap.size g2 c2 B ∧ Below W.heap.size W w3) := ⟨(hO1.base hs1).mut hM3 hg1, hO2.base hs2, hD3.bel⟩
  clear hO1 hO2 hD3 hM3 hD2 hM2 hD1
  go_wp2
  go_ret2
  exact ⟨g1, c1, A, g2, c2, B, rfl, hA, hB, HF.out.1, HF.out.2.1, HF.out.2.2⟩

set_option maxHeartbeats 1000000 in
theorem drawAlive_any (hU : IsU8 W a len cap Z) :
    Calls Try.prog 19 #[.slice a len cap] W fun e w' => ∃ g c A now, e = .returned (.tuple #[.slice (some ⟨g, 0, none⟩) A.length c, .int .i64 now]) ∧ Drawn A ∧ (-9223372036854775808 ≤ now ∧ now ≤ 9223372036854775807) ∧ OwnE w' W.heap.size g c A ∧ Below W.heap.size W w' := by
  go_enter Try.func19, Try.ntmps19
  go_wp2_with fail
  refine (open_any _ _ _ _).mono ?_
  rintro e w1 ⟨rfl, hD1⟩
  go_wp2_with fail
  refine (beats_any 8 (by omega) (by omega) hU w1 hD1).mono ?_
  rintro e w2 ⟨g1, c1, A, rfl, hA, hO1, hD2, hM2⟩
  have hg1 : g1 ≠ W.heap.size := by have := hO1.lies.2.2; have := hD1.lt; omega
  have hs1 := hD1.bel.size
  go_wp2_with fail
  refine (once_any hU 8 (by omega) (by omega) w2 hD2).mono ?_
  rintro e w3 ⟨x, rfl, hD3, hM3⟩
  have HO3 : Hid (OwnE w3 W.heap.size g1 c1 A) := (hO1.base hs1).mut hM3 hg1
  clear hO1 hM3 hD2 hM2 hD1
  cases x with
  | true =>
    go_wp2_with fail
    refine (off0m_any hU w3 hD3).mono ?_
    rintro e w4 ⟨z, hz0, hz1, rfl, hD4, hM4⟩
    have HF : Hid (OwnE w4 W.heap.size g1 c1 A ∧ Below W.heap.size W w4) := ⟨HO3.out.mut hM4 hg1, hD4.bel⟩
    clear hM4 hD4 hD3
    go_wp2
    go_ret2
    exact ⟨g1, c1, A, z, rfl, hA, ⟨hz0, hz1⟩, HF.out.1, HF.out.2⟩
  | false =>
    go_wp2_with fail
    refine (below_any hU 140 (by omega) (by omega) w3 hD3).mono ?_
    rintro e w4 ⟨z, hz0, hz1, rfl, hD4, hM4⟩
    have HF : Hid (OwnE w4 W.heap.size g1 c1 A ∧ Below W.heap.size W w4) := ⟨HO3.out.mut hM4 hg1, hD4.bel⟩
    clear hM4 hD4 hD3
    go_wp2
    go_ret2
    exact ⟨g1, c1, A, z, rfl, hA, ⟨by omega, by omega⟩, HF.out.1, HF.out.2⟩
end
end Go.Proofs.Ytnjlegphohmajaa
