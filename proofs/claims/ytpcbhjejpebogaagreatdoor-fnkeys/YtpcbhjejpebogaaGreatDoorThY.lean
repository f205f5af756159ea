/-
  The reader of codes, its small methods, beside the texts of terms: whatever the code, they return a number in its range, and leave all memory but the reader's own as it was. Condition: the code reads as bytes.
  Drawn epochs: whatever the code, they read as epochs, in blocks of their own, and all memory but the reader's lies as it lay. Condition: the code reads as bytes.
  The reader's epochs: whatever the code, a row of epochs of its own. Condition: the code reads as bytes.
  DrawKeysOf: whatever the code, epochs and texts in memory of the call's own. Condition: the code reads as bytes.
-/
import Derived.Test.YtpcbhjejpebogaaGreatDoorThE
import Derived.Test.YtpcbhjejpebogaaGreatDoorThK
import Derived.Test.YtpcbhjejpebogaaGreatDoorThI
namespace Go.Proofs.YtpcbhjejpebogaaGreatDoor
open Go.RowKit
set_option linter.unusedVariables false

/-- a slice of bytes that reads as the numbers Z 0, Z 1, .. in world w -/
def IsU8 (w : World) (a : Option Addr) (len cap : Nat) (Z : Nat → Int) : Prop :=
  len ≤ cap ∧ cap ≤ 9223372036854775807 ∧ (∀ i, 0 ≤ Z i ∧ Z i ≤ 255) ∧ (0 < len → ∃ b off, a = some ⟨b, off, none⟩ ∧ b < w.heap.size ∧ ∀ i, i < len → w.cell? ⟨b, off + i, none⟩ = some (.int .u8 (Z i)))

/-- w is behind W; block R, new since W, holds a reader of the code -/
structure Draw (W : World) (a : Option Addr) (len cap R : Nat) (w : World) : Prop where
  bel : Below W.heap.size W w
  new : W.heap.size ≤ R
  box : ∃ p : Nat, p ≤ len ∧ w.heap[R]? = some (.cells #[.slice a len cap, .int .i64 p] 93 (0, 0))

theorem Draw.alloc {W : World} {a : Option Addr} {len cap R : Nat} {w : World} (h : Draw W a len cap R w) (o : Obj) : Draw W a len cap R (w.alloc o) := by
  obtain ⟨p, hp, hb⟩ := h.box
  exact ⟨h.bel.alloc (Nat.le_trans h.new (Nat.le_of_lt (lt_of_block hb))) o, h.new, p, hp, by rw [Below.heap_alloc _ _ _ (lt_of_block hb)]; exact hb⟩

theorem Draw.below {W : World} {a : Option Addr} {len cap R : Nat} {w w' : World} (h : Draw W a len cap R w) (hB : Below w.heap.size w w') : Draw W a len cap R w' := by
  obtain ⟨p, hp, hb⟩ := h.box
  exact ⟨h.bel.trans (hB.mono h.bel.size), h.new, p, hp, (hB.block _ (lt_of_block hb)).trans hb⟩
theorem Mut.of_below {R : Nat} {w w' : World} (h : Below w.heap.size w w') : Mut R w w' := ⟨h.os, h.tape, h.output, h.size, fun k hk _ => h.block k hk⟩
theorem Draw.drewN {W : World} {a : Option Addr} {len cap R : Nat} {w : World} (h : Draw W a len cap R w) (n : Nat) : Draw W a len cap R (w.drewN n) :=
  ⟨h.bel.trans ⟨rfl, rfl, rfl, Nat.le_refl _, fun _ _ => rfl⟩, h.new, h.box⟩

theorem big_any (a : Option Addr) (len cap : Nat) (w : World) : Calls Tryz.prog 6 #[.slice a len cap] w fun e w' => e = .returned (.bool (decide ((1048576 : Int) < (len : Int)))) ∧ w' = w := by
  go_enter Tryz.func6, Tryz.ntmps6
  go_wp2
  go_ret
  exact ⟨rfl, rfl⟩

theorem open_any (a : Option Addr) (len cap : Nat) (w : World) : Calls Tryz.prog 29 #[.slice a len cap] w fun e w' => e = .returned (.pointer (some ⟨w.heap.size, 0, none⟩)) ∧ Draw w a len cap w.heap.size w' := by
  go_enter Tryz.func29, Tryz.ntmps29
  go_wp2
  go_ret
  exact ⟨rfl, (Below.refl _ _).alloc (Nat.le_refl _) _, Nat.le_refl _, 0, Nat.zero_le _, heap_alloc_new w _⟩

section
variable {W : World} {a : Option Addr} {len cap R : Nat} {Z : Nat → Int}

set_option maxHeartbeats 400000 in
theorem next_any (hU : IsU8 W a len cap Z) (w : World) (h : Draw W a len cap R w) :
    Calls Tryz.prog 69 #[.pointer (some ⟨R, 0, none⟩)] w fun e w' => ∃ x : Int, 0 ≤ x ∧ x ≤ 255 ∧ e = .returned (.int .i64 x) ∧ Draw W a len cap R w' ∧ Mut R w w' := by
  obtain ⟨hlc, hcm, hrg, hc⟩ := hU
  obtain ⟨p, hp, hb⟩ := h.box
  have c0 : w.cell? ⟨R, 0, none⟩ = some (.slice a len cap) := by simp [World.cell?, hb]
  have c1 : w.cell? ⟨R, 1, none⟩ = some (.int .i64 p) := by simp [World.cell?, hb]
  have f1 : w.frozen? ⟨R, 1, none⟩ = false := by simp [World.frozen?, hb]
  have H : Hid (Draw W a len cap R w) := h
  have HB : Hid (w.heap[R]? = some (.cells #[.slice a len cap, .int .i64 p] 93 (0, 0))) := hb
  clear h hb
  by_cases hlt : p < len
  · have hge : decide ((len : Int) ≤ (p : Int)) = false := by simp; omega
    have hltI : (p : Int) < (len : Int) := by omega
    obtain ⟨b, off, rfl, hbs, hcell⟩ := hc (by omega)
    have hck : w.cell? ⟨b, off + p, none⟩ = some (.int .u8 (Z p)) := (H.out.bel.cell (p := ⟨b, off + p, none⟩) hbs).trans (hcell p hlt)
    have hRb : Hid (R ≠ b) := by
      show _ ≠ _
      have := H.out.new
      omega
    have hck' : ∀ nq, ((w.drewN nq).setCell ⟨R, 1, none⟩ (.int .i64 ((p : Int) + 1))).cell? ⟨b, off + p, none⟩ = some (.int .u8 (Z p)) := by
      intro nq
      rw [← hck]
      exact World.cell?_of_block (Below.heap_setCell _ _ _ _ (fun e => hRb.out e.symm))
    have hb' : Hid ((w.setCell ⟨R, 1, none⟩ (.int .i64 ((p : Int) + 1))).heap[R]? = some (.cells #[.slice (some ⟨b, off, none⟩) len cap, .int .i64 ((p + 1 : Nat) : Int)] 93 (0, 0))) := by
      show _ = _
      rw [heap_setCell_same w R 1 _ 93 _ HB.out]
      rfl
    have HD : Hid (∀ nq n, Draw W (some ⟨b, off, none⟩) len cap R (((w.drewN nq).setCell ⟨R, 1, none⟩ (.int .i64 ((p : Int) + 1))).drewN n)) := fun nq n =>
      Draw.drewN ⟨(H.out.drewN nq).bel.setCell (p := ⟨R, 1, none⟩) H.out.new _, H.out.new, p + 1, hlt, hb'.out⟩ n
    have hz := hrg p
    have hwp : IntKind.i64.wrap (p : Int) = (p : Int) := by rw [IntKind.wrap_i64]; omega
    clear hcell hc
    go_enter Tryz.func69, Tryz.ntmps69
    go_wp2
    go_quiet (fail)
    go_wp2
    go_quiet (fail)
    go_wp2
    go_ret
    exact ⟨Z p, hz.1, hz.2, rfl, HD.out _ _, (((Mut.refl R w).drewN _).setCell 1 _).drewN _⟩
  · have hge : decide ((len : Int) ≤ (p : Int)) = true := by simp; omega
    go_enter Tryz.func69, Tryz.ntmps69
    go_wp2
    go_quiet (fail)
    go_wp2
    go_ret
    exact ⟨0, by omega, by omega, rfl, H.out.drewN _, (Mut.refl R w).drewN _⟩

theorem below_any (hU : IsU8 W a len cap Z) (n : Int) (hn : 2 ≤ n) (hn2 : n ≤ 256) (w : World) (h : Draw W a len cap R w) :
    Calls Tryz.prog 44 #[.pointer (some ⟨R, 0, none⟩), .int .i64 n] w fun e w' => ∃ x : Int, 0 ≤ x ∧ x < n ∧ e = .returned (.int .i64 x) ∧ Draw W a len cap R w' ∧ Mut R w w' := by
  have h1 : ¬ n ≤ 1 := by omega
  have h0 : ¬ n = 0 := by omega
  go_enter Tryz.func44, Tryz.ntmps44
  go_wp2_with (go_at_call 69; refine (next_any hU _ h).mono ?_; rintro e w' ⟨x, hx0, hx1, rfl, hD, hM⟩)
  go_ret
  refine ⟨x % n, Int.emod_nonneg _ (by omega), Int.emod_lt_of_pos _ (by omega), rfl, hD, hM⟩

theorem once_any (hU : IsU8 W a len cap Z) (n : Int) (hn : 2 ≤ n) (hn2 : n ≤ 256) (w : World) (h : Draw W a len cap R w) :
    Calls Tryz.prog 43 #[.pointer (some ⟨R, 0, none⟩), .int .i64 n] w fun e w' => ∃ x : Bool, e = .returned (.bool x) ∧ Draw W a len cap R w' ∧ Mut R w w' := by
  go_enter Tryz.func43, Tryz.ntmps43
  go_wp2_with (go_at_call 44; refine (below_any hU n hn hn2 _ h).mono ?_; rintro e w' ⟨x, hx0, hx1, rfl, hD, hM⟩)
  go_ret
  exact ⟨_, rfl, hD, hM⟩

theorem Draw.lt {w : World} (h : Draw W a len cap R w) : R < w.heap.size := by
  obtain ⟨p, hp, hb⟩ := h.box
  exact lt_of_block hb

/-- a literal's own block behind a draw -/
theorem lit_cells {w w' : World} {cs : Array Value} {t : TypeId} (hM : Mut R (w.alloc (.cells cs t)) w') (hR : R < w.heap.size) (i : Nat) : w'.cell? ⟨w.heap.size, i, none⟩ = cs[i]? := by
  have hb : w'.heap[w.heap.size]? = some (.cells cs t (0, 0)) := (hM.block w.heap.size (by simp) (by omega)).trans (heap_alloc_new w _)
  simp [World.cell?, hb]

theorem below1_any (w : World) (h : Draw W a len cap R w) :
    Calls Tryz.prog 44 #[.pointer (some ⟨R, 0, none⟩), .int .i64 1] w fun e w' => e = .returned (.int .i64 0) ∧ w' = w := by
  go_enter Tryz.func44, Tryz.ntmps44
  go_wp2
  go_ret
  exact ⟨rfl, rfl⟩
theorem belowN_any (hU : IsU8 W a len cap Z) (n : Nat) (hn : 1 ≤ n) (hn2 : n ≤ 256) (w : World) (h : Draw W a len cap R w) :
    Calls Tryz.prog 44 #[.pointer (some ⟨R, 0, none⟩), .int .i64 (n : Int)] w fun e w' => ∃ y : Nat, y < n ∧ e = .returned (.int .i64 (y : Int)) ∧ Draw W a len cap R w' ∧ Mut R w w' := by
  by_cases h1 : n = 1
  · subst h1
    refine (below1_any w h).mono ?_
    rintro e w' ⟨rfl, rfl⟩
    exact ⟨0, by omega, rfl, h, Mut.refl _ _⟩
  · refine (below_any hU (n : Int) (by omega) (by omega) w h).mono ?_
    rintro e w' ⟨y, h0, h2, rfl, hD, hM⟩
    exact ⟨y.toNat, by omega, by rw [Int.toNat_of_nonneg h0], hD, hM⟩

end
end Go.Proofs.YtpcbhjejpebogaaGreatDoor

namespace Go.Proofs.YtpcbhjejpebogaaGreatDoor
open Go.RowKit
set_option linter.unusedVariables false

section
variable {W : World} {a : Option Addr} {len cap R : Nat} {Z : Nat → Int}

set_option maxHeartbeats 400000 in
theorem word_any (hU : IsU8 W a len cap Z) (w : World) (h : Draw W a len cap R w) :
    Calls Tryz.prog 119 #[.pointer (some ⟨R, 0, none⟩)] w fun e w' => ∃ x : Int, e = .returned (.int .u64 x) ∧ Draw W a len cap R w' ∧ Mut R w w' := by
  go_enter Tryz.func119, Tryz.ntmps119
  go_wp2
  go_loopw [3, 4] (fun x i wr => ∃ (z : Int) (k : Nat), k ≤ 8 ∧ x = .int .u64 z ∧ i = .int .i64 k ∧ Draw W a len cap R wr ∧ Mut R w wr) (fun _ i _ => 8 - (intOf i).toNat)
  case atStart => exact ⟨0, 0, by omega, rfl, rfl, h, Mut.refl _ _⟩
  case round =>
    obtain ⟨z, k, hk, rfl, rfl, hD, hM⟩ := hrel
    by_cases hlt : k < 8
    · have hltI : (k : Int) < 8 := by omega
      go_wp2_with (go_at_call 69; refine (next_any hU _ hD).mono ?_; rintro e w' ⟨x, hx0, hx1, rfl, hD', hM'⟩)
      exact ⟨⟨_, k + 1, by omega, rfl, by go_num, hD', hM.trans hM'⟩, by simp [intOf]; omega⟩
    · have hltI : ¬ (k : Int) < 8 := by omega
      go_wp2
      go_ret
      exact ⟨⟨z, rfl⟩, hD, hM⟩

set_option maxHeartbeats 400000 in
theorem near_any (hU : IsU8 W a len cap Z) (w : World) (h : Draw W a len cap R w) :
    Calls Tryz.prog 99 #[.pointer (some ⟨R, 0, none⟩), .int .i64 100, .int .i64 199] w fun e w' => ∃ x : Int, e = .returned (.int .i64 x) ∧ Draw W a len cap R w' ∧ Mut R w w' := by
  go_enter Tryz.func99, Tryz.ntmps99
  go_wp2_with (first
    | (go_at_call 44; refine (below_any hU 8 (by omega) (by omega) _ h).mono ?_; rintro e w' ⟨x, hx0, hx1, rfl, hD, hM⟩)
    | (go_at_call 119; refine (word_any hU _ hD).mono ?_; rintro e w2 ⟨z, rfl, hD', hM'⟩))
  · go_ret
    exact ⟨_, rfl, hD, hM⟩
  · go_ret
    exact ⟨_, rfl, hD, hM⟩
  · go_ret
    exact ⟨_, rfl, hD', hM.trans hM'⟩

set_option maxHeartbeats 400000 in
theorem off_any (hU : IsU8 W a len cap Z) (w : World) (h : Draw W a len cap R w) :
    Calls Tryz.prog 80 #[.pointer (some ⟨R, 0, none⟩), .int .i64 100, .int .i64 199] w fun e w' => ∃ x : Int, e = .returned (.int .i64 x) ∧ Draw W a len cap R w' ∧ Mut R w w' := by
  go_enter Tryz.func80, Tryz.ntmps80
  go_wp2_with (first
    | (go_at_call 43; refine (once_any hU 24 (by omega) (by omega) _ h).mono ?_; rintro e w' ⟨x, rfl, hD, hM⟩)
    | (go_at_call 99; refine (near_any hU _ hD).mono ?_; rintro e w2 ⟨z, rfl, hD', hM'⟩))
  · refine (below_any hU 4 (by omega) (by omega) _ (hD.alloc _)).mono ?_
    rintro e w3 ⟨y, hy0, hy1, rfl, hD3, hM3⟩
    have hc := lit_cells hM3 hD.lt
    have c0 := hc 0
    have c1 := hc 1
    have c2 := hc 2
    have c3 := hc 3
    clear hc
    have hM4 : Hid (Mut R w w3) := (hM.alloc _).trans hM3
    clear hM3
    have hy : y = 0 ∨ y = 1 ∨ y = 2 ∨ y = 3 := by omega
    rcases hy with rfl | rfl | rfl | rfl <;> (go_wp2; go_ret; exact ⟨_, rfl, hD3, hM4.out⟩)
  · go_ret
    exact ⟨_, rfl, hD', hM.trans hM'⟩


end

theorem rows_apart {w : World} {b b' s s' n n' : Nat} {e e' : TypeId} {v v' : Value} {xs xs' : List Value} (h : w.ownsRow b e s v n xs) (k : w.ownsRow b' e' s' v' n' xs') (hne : e ≠ e') : ∀ x, v.ownBlock = some x → v'.ownBlock ≠ some x := by
  intro x hx hx'
  rcases h.2 with ⟨e1, _⟩ | ⟨g, c, cur, e1, _, hg, _⟩
  · rw [e1] at hx; cases hx
  · rcases k.2 with ⟨e2, _⟩ | ⟨g2, c2, cur2, e2, _, hg2, _⟩
    · rw [e2] at hx'; cases hx'
    · rw [e1] at hx
      rw [e2] at hx'
      have h1 : g = x := Option.some.inj hx
      have h2 : g2 = x := Option.some.inj hx'
      rw [h1] at hg
      rw [h2, hg] at hg2
      simp at hg2
      exact hne hg2.2
/-- a row lies on where its block does -/
theorem row_keep {w w' : World} {b s n : Nat} {e : TypeId} {v : Value} {xs : List Value} (h : w.ownsRow b e s v n xs) (hk : ∀ k, v.ownBlock = some k → k < w.heap.size → w'.heap[k]? = w.heap[k]?) : w'.ownsRow b e s v n xs := by
  refine ⟨h.1, ?_⟩
  rcases h.2 with h2 | ⟨g, c, cur, e1, hb, hg, r⟩
  · exact .inl h2
  · exact .inr ⟨g, c, cur, e1, hb, (hk g (by rw [e1]; rfl) (lt_of_block hg)).trans hg, r⟩

/-- an epoch as it is drawn: key, the slice of members, the members -/
abbrev Ept := Int × Value × List Int
def eptC (E : List Ept) : List Value := E.flatMap fun e => [.int .i64 e.1, e.2.1]
def intC (zs : List Int) : List Value := zs.map (.int .i64 ·)
theorem eptC_add (E : List Ept) (e : Ept) : eptC (E ++ [e]) = eptC E ++ [.int .i64 e.1, e.2.1] := by unfold eptC; rw [List.flatMap_append]; simp
theorem eptC_len (E : List Ept) : (eptC E).length = E.length * 2 := by
  induction E with
  | nil => rfl
  | cons e E ih =>
    have : eptC (e :: E) = [.int .i64 e.1, e.2.1] ++ eptC E := rfl
    rw [this, List.length_append, ih, List.length_cons]
    simp
    omega
theorem eptC_at : ∀ (E : List Ept) (i : Nat) (h : i < E.length), (eptC E)[i * 2]? = some (.int .i64 E[i].1) ∧ (eptC E)[i * 2 + 1]? = some E[i].2.1
  | [], i, h => absurd h (Nat.not_lt_zero _)
  | e :: E, 0, h => ⟨rfl, rfl⟩
  | e :: E, i + 1, h => by
    have h1 := eptC_at E i (by simpa using h)
    have e1 : eptC (e :: E) = [.int .i64 e.1, e.2.1] ++ eptC E := rfl
    rw [e1, show (i + 1) * 2 = i * 2 + 2 by omega, List.getElem?_append_right (by simp), List.getElem?_append_right (by simp)]
    simpa using h1

/-- between two epochs -/
structure Out (W : World) (a : Option Addr) (len cap R : Nat) (w0 : World) (E : List Ept) (vo : Value) (w : World) : Prop where
  dr : Draw W a len cap R w
  mu : Mut R w0 w
  own : w.ownsRow w0.heap.size 45 2 vo E.length (eptC E)
  rows : ∀ e, e ∈ E → w.ownsRow w0.heap.size 2 1 e.2.1 e.2.2.length (intC e.2.2)
/-- within an epoch, which lies in block B -/
structure Inn (W : World) (a : Option Addr) (len cap R : Nat) (w0 : World) (E : List Ept) (vo : Value) (B : Nat) (key : Int) (vm : Value) (zs : List Int) (w : World) : Prop where
  out : Out W a len cap R w0 E vo w
  hB : w0.heap.size ≤ B
  ob : ∀ k, vo.ownBlock = some k → k < B
  rb : ∀ e, e ∈ E → ∀ k, e.2.1.ownBlock = some k → k < B
  box : w.heap[B]? = some (.cells #[.int .i64 key, vm] 45 (0, 0))
  mem : w.ownsRow (B + 1) 2 1 vm zs.length (intC zs)
section
variable {W : World} {a : Option Addr} {len cap R : Nat} {w0 : World} {E : List Ept} {vo : Value} {w w' : World}
theorem Out.mut (h : Out W a len cap R w0 E vo w) (hR : R < w0.heap.size) (hM : Mut R w w') (hD : Draw W a len cap R w') : Out W a len cap R w0 E vo w' :=
  ⟨hD, h.mu.trans hM, row_keep h.own (fun k hk hl => hM.block k hl (by have := (h.own.lt k hk).1; omega)), fun e he => row_keep (h.rows e he) (fun k hk hl => hM.block k hl (by have := ((h.rows e he).lt k hk).1; omega))⟩
theorem Out.size (h : Out W a len cap R w0 E vo w) : w0.heap.size ≤ w.heap.size := h.mu.size
theorem Out.enter (h : Out W a len cap R w0 E vo w) (key : Int) : Inn W a len cap R w0 E vo w.heap.size key (.slice none 0 0) [] (w.alloc (.cells #[.int .i64 key, .slice none 0 0] 45)) :=
  ⟨⟨h.dr.alloc _, h.mu.alloc _, h.own.alloc _, fun e he => (h.rows e he).alloc _⟩, h.size, fun k hk => (h.own.lt k hk).2, fun e he k hk => ((h.rows e he).lt k hk).2, heap_alloc_new _ _, World.ownsRow_nil _ _ _ _⟩
theorem Inn.mut {B : Nat} {key : Int} {vm : Value} {zs : List Int} (h : Inn W a len cap R w0 E vo B key vm zs w) (hR : R < w0.heap.size) (hM : Mut R w w') (hD : Draw W a len cap R w') : Inn W a len cap R w0 E vo B key vm zs w' :=
  ⟨h.out.mut hR hM hD, h.hB, h.ob, h.rb, (hM.block B (lt_of_block h.box) (by have := h.hB; omega)).trans h.box, row_keep h.mem (fun k hk hl => hM.block k hl (by have := (h.mem.lt k hk).1; have := h.hB; omega))⟩
/-- a member is appended -/
theorem Inn.add {B : Nat} {key : Int} {vm : Value} {zs : List Int} (h : Inn W a len cap R w0 E vo B key vm zs w) (hR : R < w0.heap.size) {tmp : Obj} {w1 : World} {v' : Value} {m : Int} (hown : w1.ownsRow (B + 1) 2 1 v' (zs ++ [m]).length (intC (zs ++ [m]))) (hg : (w.alloc tmp).grownBy w1 vm.ownBlock) :
    w1.heap[B]? = some (.cells #[.int .i64 key, vm] 45 (0, 0)) ∧ Inn W a len cap R w0 E vo B key v' (zs ++ [m]) (w1.setCell ⟨B, 1, none⟩ v') := by
  have hB := lt_of_block h.box
  have hge : ∀ k, vm.ownBlock = some k → B + 1 ≤ k := fun k hk => (h.mem.lt k hk).1
  have hbl : ∀ k, k < w.heap.size → k ≤ B → w1.heap[k]? = w.heap[k]? := fun k hk hkB => by
    refine (hg.block k (by simp; omega) (fun e => ?_)).trans (Below.heap_alloc _ _ _ hk)
    have := hge k e.symm
    omega
  have hs1 : w.heap.size ≤ w1.heap.size := by have := hg.size; simp at this; omega
  have hset : ∀ k, k < w.heap.size → k < B → (w1.setCell ⟨B, 1, none⟩ v').heap[k]? = w.heap[k]? := fun k hk hkB => by
    rw [Below.heap_setCell _ _ _ _ (by simp; omega)]
    exact hbl k hk (by omega)
  have hbox := (hbl B hB (Nat.le_refl _)).trans h.box
  have hRlt : R < w.heap.size := by have := h.out.size; omega
  refine ⟨hbox, ⟨⟨⟨?_, h.out.dr.new, ?_⟩, ?_, ?_, ?_⟩, h.hB, h.ob, h.rb, ?_, ?_⟩⟩
  · have h1 : Below W.heap.size W w := h.out.dr.bel
    have h2 : Below W.heap.size w (w1.setCell ⟨B, 1, none⟩ v') := by
      refine (((Below.refl W.heap.size w).alloc h1.size tmp).grown hg (by simp; have := h1.size; omega) (fun k hk => ?_)).setCell (p := ⟨B, 1, none⟩) ?_ v'
      · have := hge k hk; have := h.out.dr.new; have := h.hB; omega
      · have := h.out.dr.new; have := h.hB; show W.heap.size ≤ B; omega
    exact h1.trans h2
  · obtain ⟨p, hp, hb⟩ := h.out.dr.box
    exact ⟨p, hp, (hset R hRlt (by have := h.hB; omega)).trans hb⟩
  · refine ⟨hg.os.trans h.out.mu.os, hg.tape.trans h.out.mu.tape, hg.output.trans h.out.mu.output, by have := h.out.size; simp [World.setCell]; omega, fun k hk hne => ?_⟩
    have := h.out.size
    have := h.hB
    exact (hset k (by omega) (by omega)).trans (h.out.mu.block k hk hne)
  · exact row_keep h.out.own (fun k hk hl => hset k hl (h.ob k hk))
  · exact fun e he => row_keep (h.out.rows e he) (fun k hk hl => hset k hl (h.rb e he k hk))
  · rw [heap_setCell_same w1 B 1 _ 45 _ hbox]
    rfl
  · refine row_keep hown (fun k hk hl => Below.heap_setCell _ _ _ _ ?_)
    have := (hown.lt k hk).1
    show k ≠ B
    omega
/-- the epoch is appended -/
theorem Inn.leave {B : Nat} {key : Int} {vm : Value} {zs : List Int} (h : Inn W a len cap R w0 E vo B key vm zs w) (hR : R < w0.heap.size) {tmp : Obj} {w1 : World} {v' : Value} (hown : w1.ownsRow w0.heap.size 45 2 v' (E ++ [(key, vm, zs)]).length (eptC (E ++ [(key, vm, zs)]))) (hg : (w.alloc tmp).grownBy w1 vo.ownBlock) :
    Out W a len cap R w0 (E ++ [(key, vm, zs)]) v' w1 := by
  have hge : ∀ k, vo.ownBlock = some k → w0.heap.size ≤ k := fun k hk => (h.out.own.lt k hk).1
  have hbl : ∀ k, k < w.heap.size → vo.ownBlock ≠ some k → w1.heap[k]? = w.heap[k]? := fun k hk hne => (hg.block k (by simp; omega) (fun e => hne e.symm)).trans (Below.heap_alloc _ _ _ hk)
  have hs1 : w.heap.size ≤ w1.heap.size := by have := hg.size; simp at this; omega
  have hRlt : R < w.heap.size := by have := h.out.size; omega
  refine ⟨⟨?_, h.out.dr.new, ?_⟩, ?_, hown, ?_⟩
  · have h1 : Below W.heap.size W w := h.out.dr.bel
    refine h1.trans (((Below.refl W.heap.size w).alloc h1.size tmp).grown hg (by simp; have := h1.size; omega) (fun k hk => ?_))
    have := hge k hk; have := h.out.dr.new; omega
  · obtain ⟨p, hp, hb⟩ := h.out.dr.box
    exact ⟨p, hp, (hbl R hRlt (fun e => by have := hge R e; omega)).trans hb⟩
  · refine ⟨hg.os.trans h.out.mu.os, hg.tape.trans h.out.mu.tape, hg.output.trans h.out.mu.output, by have := h.out.size; omega, fun k hk hne => ?_⟩
    have := h.out.size
    exact (hbl k (by omega) (fun e => by have := hge k e; omega)).trans (h.out.mu.block k hk hne)
  · intro e he
    rcases List.mem_append.1 he with h1 | h1
    · exact row_keep (h.out.rows e h1) (fun k hk hl => hbl k hl (rows_apart (h.out.rows e h1) h.out.own (by decide) k hk))
    · obtain rfl := List.mem_singleton.1 h1
      have hm : w.ownsRow w0.heap.size 2 1 vm zs.length (intC zs) := mono_base h.mem (by have := h.hB; omega)
      exact row_keep hm (fun k hk hl => hbl k hl (rows_apart hm h.out.own (by decide) k hk))
/-- the first key is set -/
theorem Out.first {e : Ept} (h : Out W a len cap R w0 (e :: E) vo w) (hR : R < w0.heap.size) {g c : Nat} (hv : vo = .slice (some ⟨g, 0, none⟩) (E.length + 1) c) (x : Int) :
    Out W a len cap R w0 ((x, e.2) :: E) vo (w.setCell ⟨g, 0, none⟩ (.int .i64 x)) := by
  have ho := h.own
  rw [hv] at ho
  have hgb : w0.heap.size ≤ g := (ho.lt g rfl).1
  have hst := (ho.stored 0 (.int .i64 x)).1
  have hbl : ∀ k, k ≠ g → (w.setCell ⟨g, 0, none⟩ (.int .i64 x)).heap[k]? = w.heap[k]? := fun k hk => Below.heap_setCell _ _ _ _ hk
  have hrow : ∀ e', e' ∈ e :: E → (w.setCell ⟨g, 0, none⟩ (.int .i64 x)).ownsRow w0.heap.size 2 1 e'.2.1 e'.2.2.length (intC e'.2.2) := fun e' he =>
    row_keep (h.rows e' he) (fun k hk _ => hbl k (fun q => rows_apart (h.rows e' he) ho (by decide) k hk (by rw [q]; rfl)))
  refine ⟨⟨h.dr.bel.setCell (p := ⟨g, 0, none⟩) (by have := h.dr.new; show W.heap.size ≤ g; omega) _, h.dr.new, ?_⟩, ?_, ?_, ?_⟩
  · obtain ⟨p, hp, hb⟩ := h.dr.box
    exact ⟨p, hp, (hbl R (by omega)).trans hb⟩
  · refine ⟨h.mu.os, h.mu.tape, h.mu.output, by have := h.mu.size; simpa [World.setCell] using this, fun k hk hne => (hbl k (by omega)).trans (h.mu.block k hk hne)⟩
  · rw [hv]
    exact hst
  · intro e' he
    rcases List.mem_cons.1 he with rfl | h1
    · exact hrow e (List.mem_cons_self ..)
    · exact hrow e' (List.mem_cons_of_mem _ h1)
/-- what was drawn reads as epochs -/
theorem Out.eps (h : Out W a len cap R w0 E vo w) : ∃ b n c K L M, vo = .slice b n c ∧ Ep.IsEps w b n c K L M := by
  have ho := h.own
  have key : ∀ i, i < E.length → ∃ q : Option Addr × Nat, (E.getD i (0, .slice none 0 0, [])).2.1 = .slice q.1 (E.getD i (0, .slice none 0 0, [])).2.2.length q.2 ∧ Ep.IsI64 w q.1 (E.getD i (0, .slice none 0 0, [])).2.2.length q.2 (fun j => (E.getD i (0, .slice none 0 0, [])).2.2.getD j 0) := by
    intro i hi
    have he : E.getD i (0, .slice none 0 0, []) = E[i] := by simp [List.getD, hi]
    rw [he]
    have hr := h.rows E[i] (List.getElem_mem hi)
    rcases hr.2 with ⟨e1, e2⟩ | ⟨g, c, cur, e1, hb, hg, h1, h2, _⟩
    · exact ⟨(none, 0), by rw [e1, e2], ⟨by omega, by decide, fun hp => by omega⟩⟩
    · refine ⟨(some ⟨g, 0, none⟩, c), e1, ⟨h1, by unfold maxLen at h2; omega, fun hp => ⟨g, 0, rfl, lt_of_block hg, fun j hj => ?_⟩⟩⟩
      have := hr.cells (g := g) (by rw [e1]; rfl) j (.int .i64 (E[i].2.2.getD j 0)) (by unfold intC; rw [List.getElem?_map, List.getElem?_eq_getElem hj]; simp [List.getD, hj])
      rw [add_at] at this
      exact this
  obtain ⟨q, hq⟩ := Go.Deep.choose_lt key
  rcases ho.2 with ⟨e1, e2⟩ | ⟨g, c, cur, e1, hb, hg, h1, h2, _⟩
  · exact ⟨none, 0, 0, fun _ => 0, fun _ => 0, fun _ _ => 0, e1, ⟨Nat.le_refl _, by decide, fun h => absurd h (Nat.lt_irrefl _)⟩⟩
  · refine ⟨some ⟨g, 0, none⟩, E.length, c, fun i => (E.getD i (0, .slice none 0 0, [])).1, fun i => (E.getD i (0, .slice none 0 0, [])).2.2.length, fun i j => (E.getD i (0, .slice none 0 0, [])).2.2.getD j 0, e1, ⟨h1, by unfold maxLen at h2; omega, fun hp => ⟨g, 0, fun i => (q i).1, fun i => (q i).2, rfl, lt_of_block hg, fun i hi => ⟨?_, ?_, (hq i hi).2⟩⟩⟩⟩
    · have he : E.getD i (0, .slice none 0 0, []) = E[i] := by simp [List.getD, hi]
      have := ho.cells (g := g) (by rw [e1]; rfl) (i * 2) _ (eptC_at E i hi).1
      rw [add_at, Nat.zero_add] at this
      dsimp only
      rw [he, Nat.zero_add]
      exact this
    · have he : E.getD i (0, .slice none 0 0, []) = E[i] := by simp [List.getD, hi]
      have := ho.cells (g := g) (by rw [e1]; rfl) (i * 2 + 1) _ (eptC_at E i hi).2
      rw [add_at, Nat.zero_add] at this
      have h3 := (hq i hi).1
      dsimp only
      rw [← h3, he, Nat.zero_add]
      exact this
end
end Go.Proofs.YtpcbhjejpebogaaGreatDoor

namespace Go.Proofs.YtpcbhjejpebogaaGreatDoor
open Go.RowKit Go.Maps
set_option linter.unusedVariables false

section
variable {W : World} {a : Option Addr} {len cap R : Nat} {Z : Nat → Int}

set_option maxRecDepth 20000 in
set_option maxHeartbeats 8000000 in
theorem drEpochs_any (hU : IsU8 W a len cap Z) (w : World) (h : Draw W a len cap R w) :
    Calls Tryz.prog 50 #[.pointer (some ⟨R, 0, none⟩)] w fun e w' => ∃ vo E, e = .returned vo ∧ Out W a len cap R w E vo w' := by
  have HRW : Hid (R < w.heap.size) := h.lt
  have HU : Hid (IsU8 W a len cap Z) := hU
  obtain ⟨i0, hi, hz0, hz1, hz2⟩ := info_parts Ep.info2
  obtain ⟨i1, hj, hy0, hy1, hy2⟩ := info_parts Ep.info35
  have HO0 : Hid (Out W a len cap R w [] (.slice (some ⟨w.heap.size, 0, none⟩) 0 0) (w.alloc (.cells #[] 45))) := ⟨h.alloc _, (Mut.refl R w).alloc _, World.ownsRow_made w #[] 0 (Nat.le_refl _) (by decide) rfl, fun e he => (by cases he)⟩
  clear h hU
  go_enter Tryz.func50, Tryz.ntmps50
  go_wp2_with fail
  refine (below_any HU.out 5 (by omega) (by omega) _ HO0.out.dr).mono ?_
  rintro e w1 ⟨x0, hx0, hx1, rfl, hD1, hM1⟩
  have HO1 : Hid (Out W a len cap R w [] (.slice (some ⟨w.heap.size, 0, none⟩) 0 0) w1) := HO0.out.mut HRW.out hM1 hD1
  obtain ⟨k0, rfl⟩ : ∃ k0 : Nat, x0 = (k0 : Int) := ⟨x0.toNat, by omega⟩
  have hk0 : k0 ≤ 4 := by omega
  clear hD1 hM1 hx0 hx1
  go_wp2
  go_loopw [3, 4, 5, 6] (fun vo i _ _ wr => ∃ (k : Nat) (E : List Ept), i = .int .i64 (k : Int) ∧ k ≤ 4 ∧ E.length + k ≤ 4 ∧ Hid (Out W a len cap R w E vo wr)) (fun _ i _ _ _ => (intOf i).toNat)
  case atStart => exact ⟨k0, [], rfl, hk0, by simpa using hk0, HO1.out⟩
  case round =>
    obtain ⟨k, E, rfl, hk4, hEk, HO⟩ := hrel
    by_cases hkp : 0 < k
    · have hkI : (0 : Int) < (k : Int) := by omega
      obtain ⟨vb, vc, hvo⟩ := row_slice HO.out.own
      subst hvo
      obtain ⟨key, hkey⟩ : ∃ key : Int, key = 105 - (k : Int) := ⟨_, rfl⟩
      obtain ⟨B, hB⟩ : ∃ B, B = wr.heap.size := ⟨_, rfl⟩
      obtain ⟨w2, hw2⟩ : ∃ w2, w2 = wr.alloc (.cells #[.int .i64 key, .slice none 0 0] 45) := ⟨_, rfl⟩
      have HW2 : Hid (w2 = wr.alloc (.cells #[.int .i64 (105 - (k : Int)), .slice none 0 0] 45) ∧ B = wr.heap.size) := ⟨by rw [hw2, hkey], hB⟩
      have HI2 : Hid (Inn W a len cap R w E (.slice vb E.length vc) B key (.slice none 0 0) [] w2) := by
        show Inn _ _ _ _ _ _ _ _ _ _ _ _ _
        rw [hw2, hB]
        exact HO.out.enter key
      have hwr1 : IntKind.i64.wrap (105 - (k : Int)) = 105 - (k : Int) := by rw [IntKind.wrap_i64]; omega
      clear hkey hw2 hB
      go_wp2
      rw [← HW2.out.1, ← HW2.out.2]
      clear HW2
      go_loopw [6] (fun m w3 => ∃ (j : Nat) (vm : Value) (zs : List Int), j ≤ 5 ∧ m = .int .i64 ((1 + j : Nat) : Int) ∧ zs.length ≤ j ∧ Hid (Inn W a len cap R w E (.slice vb E.length vc) B key vm zs w3)) (fun m _ => 6 - (intOf m).toNat)
      case atStart => exact ⟨0, .slice none 0 0, [], by omega, rfl, by simp, HI2.out⟩
      case round =>
        obtain ⟨j, vm, zs, hj5, rfl, hzs, HI⟩ := hrel
        obtain ⟨va, vd, hvm⟩ := row_slice HI.out.mem
        subst hvm
        by_cases hjl : j < 5
        · have hjI : ((1 + j : Nat) : Int) ≤ 5 := by omega
          go_wp2_with fail
          refine (once_any HU.out 2 (by omega) (by omega) _ HI.out.out.dr).mono ?_
          rintro e w4 ⟨x, rfl, hD4, hM4⟩
          have HI4 : Hid (Inn W a len cap R w E (.slice vb E.length vc) B key (.slice va zs.length vd) zs w4) := HI.out.mut HRW.out hM4 hD4
          clear hD4 hM4
          cases x with
          | false =>
            go_wp2
            go_roundw
            case rel => exact ⟨j + 1, _, zs, by omega, by go_num, by omega, HI4.out⟩
            case measure => simp [intOf]; omega
          | true =>
            have c1 : w4.cell? ⟨B, 1, none⟩ = some (.slice va zs.length vd) := by simp [World.cell?, HI4.out.box]
            have f1 : w4.frozen? ⟨B, 1, none⟩ = false := by simp [World.frozen?, HI4.out.box]
            have hB4 := lt_of_block HI4.out.box
            go_wp2_with (at_builtin; refine wpList_append_own _ rfl _ _ 39 rfl (B + 1) 2 i0 (.int .i64 0) 1 8 Tryz.underlying39 hi hz0 hz1 hz2 rfl (by decide) _ _ _ rfl (HI4.out.mem.alloc _) ⟨w4.heap.size, 0, none⟩ 1 1 [.int .i64 ((1 + j : Nat) : Int)] rfl rfl (World.news_of_block (heap_alloc_new _ _)) (by simp [Value.oneCell']) (by unfold maxLen; omega) (by omega) (by simp; omega) ?_; intro v' w5 hown' hgrow _; obtain ⟨va', vd', rfl⟩ := row_slice hown'; have hown2 : w5.ownsRow (B + 1) 2 1 (.slice va' (zs.length + 1) vd') (zs ++ [((1 + j : Nat) : Int)]).length (intC (zs ++ [((1 + j : Nat) : Int)])) := (by rw [List.length_append, intC, List.map_append]; exact hown'); obtain ⟨hb5, hI5⟩ := HI4.out.add HRW.out hown2 hgrow; have HI5 : Hid (Inn W a len cap R w E (.slice vb E.length vc) B key (.slice va' (zs.length + 1) vd') (zs ++ [((1 + j : Nat) : Int)]) (w5.setCell ⟨B, 1, none⟩ (.slice va' (zs.length + 1) vd'))) := hI5; have c5 : w5.cell? ⟨B, 1, none⟩ = some (.slice va zs.length vd) := (by simp [World.cell?, hb5]); have f5 : w5.frozen? ⟨B, 1, none⟩ = false := (by simp [World.frozen?, hb5]); clear hown' hgrow hown2 hb5 hI5)
            go_roundw
            case rel => exact ⟨j + 1, _, zs ++ [((1 + j : Nat) : Int)], by omega, by go_num, by simp; omega, HI5.out⟩
            case measure => simp [intOf]; omega
        · have hj5' : j = 5 := by omega
          subst hj5'
          have c0 : wr.cell? ⟨B, 0, none⟩ = some (.int .i64 key) := by simp [World.cell?, HI.out.box]
          have c1 : wr.cell? ⟨B, 1, none⟩ = some (.slice va zs.length vd) := by simp [World.cell?, HI.out.box]
          have hsw := HI.out.out.size
          go_wp2_with (at_builtin; refine wpList_append_own _ rfl _ _ 36 rfl w.heap.size 45 i1 (.agg #[.int .i64 0, .slice none 0 0]) 2 32 Tryz.underlying36 hj hy0 hy1 hy2 rfl (by decide) _ _ _ rfl (HI.out.out.own.alloc _) ⟨wr.heap.size, 0, none⟩ 1 1 [.int .i64 key, .slice va zs.length vd] rfl rfl (World.news_of_block (heap_alloc_new _ _)) (by simp [Value.oneCell']) (by unfold maxLen; omega) (by omega) (by simp; omega) ?_; intro v' w5 hown' hgrow _; have hown2 : w5.ownsRow w.heap.size 45 2 v' (E ++ [(key, Value.slice va zs.length vd, zs)]).length (eptC (E ++ [(key, Value.slice va zs.length vd, zs)])) := (by rw [List.length_append, eptC_add]; exact hown'); have HO5 : Hid (Out W a len cap R w (E ++ [(key, Value.slice va zs.length vd, zs)]) v' w5) := HI.out.leave HRW.out hown2 hgrow; clear hown' hgrow hown2)
          go_roundw
          case rel => exact ⟨k - 1, _, by go_num, by omega, by simp; omega, HO5.out⟩
          case measure => simp [intOf]; omega
    · have hk0' : k = 0 := by omega
      subst hk0'
      obtain ⟨vb, vc, hvo⟩ := row_slice HO.out.own
      subst hvo
      go_wp2_with fail
      refine (once_any HU.out 30 (by omega) (by omega) _ HO.out.dr).mono ?_
      rintro e w4 ⟨x, rfl, hD4, hM4⟩
      have HO4 : Hid (Out W a len cap R w E (.slice vb E.length vc) w4) := HO.out.mut HRW.out hM4 hD4
      clear hD4 hM4
      cases x with
      | false =>
        go_wp2
        go_ret
        exact ⟨_, E, rfl, HO4.out⟩
      | true =>
        cases E with
        | nil =>
          go_wp2
          go_ret
          exact ⟨_, [], rfl, HO4.out⟩
        | cons e0 E =>
          have hn1 : (0 : Int) < (((e0 :: E).length : Nat) : Int) := by rw [List.length_cons]; omega
          obtain ⟨g, hg⟩ : ∃ g, vb = some ⟨g, 0, none⟩ := by
            rcases HO4.out.own.2 with ⟨_, h2⟩ | ⟨g, c, cur, e1, _⟩
            · simp at h2
            · simp only [Value.slice.injEq] at e1
              exact ⟨g, e1.1⟩
          subst hg
          obtain ⟨n, hn⟩ : ∃ n, n = (e0 :: E).length := ⟨_, rfl⟩
          have HN : Hid (n = E.length + 1) := by show _ = _; rw [hn, List.length_cons]
          rw [← hn] at hn1 HO4 ⊢
          clear hn
          go_wp2_with fail
          refine (off_any HU.out _ HO4.out.dr).mono ?_
          rintro e w5 ⟨x, rfl, hD5, hM5⟩
          have HO5 : Hid (Out W a len cap R w (e0 :: E) (.slice (some ⟨g, 0, none⟩) (E.length + 1) vc) w5) := by
            have := HO4.out.mut HRW.out hM5 hD5
            rw [HN.out] at this
            exact this
          have ho := HO5.out.own
          rw [List.length_cons] at ho
          have c0 : w5.cell? ⟨g, 0, none⟩ = some (.int .i64 e0.1) := by
            have := (ho.cellAt 0 (by omega)).trans (eptC_at (e0 :: E) 0 (by simp)).1
            simpa using this
          have f0 := ho.frozenAt 0
          have HO6 : Hid (Out W a len cap R w ((x, e0.2) :: E) (.slice (some ⟨g, 0, none⟩) (E.length + 1) vc) (w5.setCell ⟨g, 0, none⟩ (.int .i64 x))) := HO5.out.first HRW.out rfl x
          rw [HN.out]
          rw [HN.out] at hn1
          clear ho hD5 hM5
          go_wp2
          go_ret
          exact ⟨_, (x, e0.2) :: E, rfl, HO6.out⟩
end
end Go.Proofs.YtpcbhjejpebogaaGreatDoor

namespace Go.Proofs.YtpcbhjejpebogaaGreatDoor
open Go.RowKit Go.Maps
set_option linter.unusedVariables false

theorem Out.below {W : World} {a : Option Addr} {len cap R : Nat} {w0 : World} {E : List Ept} {vo : Value} {w w' : World} (h : Out W a len cap R w0 E vo w) (hR : R < w0.heap.size) (hB : Below w.heap.size w w') : Out W a len cap R w0 E vo w' :=
  h.mut hR (Mut.of_below hB) (h.dr.below hB)
theorem own_mutK {w w' : World} {base g c R : Nat} {L : List (List UInt8)} (h : OwnS w base g c L) (hM : Mut R w w') (hR : R < base) : OwnS w' base g c L :=
  row_keep h (fun k hk hl => hM.block k hl (by have := (h.lt k hk).1; omega))
theorem seven {w w' : World} {R : Nat} {s0 s1 s2 s3 s4 s5 s6 : ByteArray} {t : TypeId} (hM : Mut R (w.alloc (.cells #[.string s0, .string s1, .string s2, .string s3, .string s4, .string s5, .string s6] t)) w') (hR : R < w.heap.size)
    (h0 : s0.size ≤ 100) (h1 : s1.size ≤ 100) (h2 : s2.size ≤ 100) (h3 : s3.size ≤ 100) (h4 : s4.size ≤ 100) (h5 : s5.size ≤ 100) (h6 : s6.size ≤ 100) {y : Nat} (hy : y < 7) : ∃ s : ByteArray, s.size ≤ 100 ∧ w'.cell? ⟨w.heap.size, y, none⟩ = some (.string s) := by
  have hc := lit_cells hM hR y
  have : y = 0 ∨ y = 1 ∨ y = 2 ∨ y = 3 ∨ y = 4 ∨ y = 5 ∨ y = 6 := by omega
  rcases this with rfl | rfl | rfl | rfl | rfl | rfl | rfl
  · exact ⟨s0, h0, hc⟩
  · exact ⟨s1, h1, hc⟩
  · exact ⟨s2, h2, hc⟩
  · exact ⟨s3, h3, hc⟩
  · exact ⟨s4, h4, hc⟩
  · exact ⟨s5, h5, hc⟩
  · exact ⟨s6, h6, hc⟩

set_option maxRecDepth 20000 in
set_option maxHeartbeats 8000000 in
theorem drawKeysOf_any (a : Option Addr) (len cap : Nat) (Z : Nat → Int) (w : World) (hU : IsU8 w a len cap Z) :
    Calls Tryz.prog 20 #[.slice a len cap] w fun e w' => ∃ b n c K L M u m uc S, e = .returned (.tuple #[.slice b n c, .slice u m uc]) ∧ Ep.IsEps w' b n c K L M ∧ IsStrs w' u m uc S ∧ (∀ i, i < m → (S i).size ≤ 1048576) ∧ Below w.heap.size w w' := by
  have HU : Hid (IsU8 w a len cap Z) := hU
  clear hU
  go_enter Tryz.func20, Tryz.ntmps20
  go_wp2_with fail
  refine (open_any a len cap w).mono ?_
  rintro e w1 ⟨rfl, hD1⟩
  obtain ⟨R, hR⟩ : ∃ R, R = w.heap.size := ⟨_, rfl⟩
  rw [← hR] at hD1 ⊢
  have HR : Hid (R = w.heap.size) := hR
  have HRW : Hid (R < w1.heap.size) := hD1.lt
  clear hR
  go_wp2_with fail
  refine (drEpochs_any HU.out w1 hD1).mono ?_
  rintro e w2 ⟨vo, E, rfl, hO2⟩
  have HO2 : Hid (Out w a len cap R w1 E vo w2) := hO2
  have HO3 : Hid (Out w a len cap R w1 E vo (w2.alloc (.cells #[] 9))) := hO2.below HRW.out ((Below.refl _ _).alloc (Nat.le_refl _) _)
  have HK3 : Hid (OwnS (w2.alloc (.cells #[] 9)) (R + 1) w2.heap.size 0 []) := by
    have := hO2.size
    have := HRW.out
    exact World.ownsRow_made w2 #[] 0 (by omega) (by decide) rfl
  clear hD1 hO2
  go_wp2_with fail
  refine (below_any HU.out 4 (by omega) (by omega) _ HO3.out.dr).mono ?_
  rintro e w4 ⟨x, hx0, hx1, rfl, hD4, hM4⟩
  have HO4 : Hid (Out w a len cap R w1 E vo w4) := HO3.out.mut HRW.out hM4 hD4
  have HK4 : Hid (OwnS w4 (R + 1) w2.heap.size 0 []) := own_mutK HK3.out hM4 (by omega)
  obtain ⟨n, rfl⟩ : ∃ n : Nat, x = (n : Int) := ⟨x.toNat, by omega⟩
  have hn : n ≤ 3 := by omega
  clear hD4 hM4 hx0 hx1
  go_wp2
  go_loopw [6, 7] (fun v i wr => ∃ (k g c : Nat) (L : List (List UInt8)), k ≤ 3 ∧ i = .int .i64 (k : Int) ∧ v = .slice (some ⟨g, 0, none⟩) L.length c ∧ Hid (OwnS wr (R + 1) g c L ∧ L.length + k ≤ 3 ∧ (∀ x, x ∈ L → x.length ≤ 100) ∧ Out w a len cap R w1 E vo wr)) (fun _ i _ => (intOf i).toNat)
  case atStart => exact ⟨n, w2.heap.size, 0, [], hn, rfl, rfl, HK4.out, by simpa using hn, (fun x hx => by cases hx), HO4.out⟩
  case round =>
    obtain ⟨k, g, c, L, hk, rfl, rfl, HL⟩ := hrel
    obtain ⟨m, hm⟩ : ∃ m, m = L.length := ⟨_, rfl⟩
    have HM : Hid (m = L.length) := hm
    rw [← hm]
    clear hm
    by_cases h0 : 0 < k
    · have h0I : (0 : Int) < (k : Int) := by omega
      go_wp2_with fail
      refine (below_any HU.out 7 (by omega) (by omega) _ (HL.out.2.2.2.dr.alloc _)).mono ?_
      rintro e w5 ⟨y0, hy0, hy1, rfl, hD5, hM5⟩
      obtain ⟨y, rfl⟩ : ∃ y : Nat, y0 = (y : Int) := ⟨y0.toNat, by omega⟩
      have hRw : R < wr.heap.size := by have := HL.out.2.2.2.size; have := HRW.out; omega
      obtain ⟨s, hs, hcell⟩ := seven hM5 hRw (by decide) (by decide) (by decide) (by decide) (by decide) (by decide) (by decide) (y := y) (by omega)
      have hyl : (y : Int) < 7 := hy1
      have HO5 : Hid (Out w a len cap R w1 E vo w5) := (HL.out.2.2.2.below HRW.out ((Below.refl _ _).alloc (Nat.le_refl _) _)).mut HRW.out hM5 hD5
      have HK5 : Hid (OwnS w5 (R + 1) g c L) := own_mutK (HL.out.1.alloc _) hM5 (by omega)
      have HP : Hid (Calls Tryz.prog 41 #[.slice (some ⟨g, 0, none⟩) m c, .string s] w5 fun e w' => ∃ g gc, e = .returned (.slice (some ⟨g, 0, none⟩) (putL L s.toList).length gc) ∧ OwnS w' w5.heap.size g gc (putL L s.toList) ∧ Below w5.heap.size w5 w') := by
        rw [HM.out]
        exact l1Put_any g 0 c L s w5 HK5.out.lies.1 HK5.out.lies.2.1 HK5.out.caps.1 HK5.out.caps.2 (by have := HL.out.2.1; omega)
      have HS : Hid (s.size ≤ 100) := hs
      clear hD5 hM5 hs hy0 hy1
      go_wp2_with fail
      refine HP.out.mono ?_
      rintro e w6 ⟨g2, c2, rfl, ho6, hB6⟩
      have HN : Hid (OwnS w6 (R + 1) g2 c2 (putL L s.toList) ∧ (putL L s.toList).length + (k - 1) ≤ 3 ∧ (∀ x, x ∈ putL L s.toList → x.length ≤ 100) ∧ Out w a len cap R w1 E vo w6) := by
        refine ⟨mono_base ho6 (by have := HO5.out.size; have := HRW.out; omega), by have h1 := putL_len s.toList L; have := HL.out.2.1; omega, fun x hx => ?_, HO5.out.below HRW.out hB6⟩
        rcases (putL_mem _ _ _).1 hx with h1 | h1
        · exact HL.out.2.2.1 x h1
        · rw [h1]
          have := HS.out
          rw [ByteArray.toList_eq]
          simpa using this
      clear ho6 hB6
      obtain ⟨L2, hL2⟩ : ∃ L2, L2 = putL L s.toList := ⟨_, rfl⟩
      rw [← hL2] at HN ⊢
      clear hL2 hcell
      go_wp2
      go_roundw
      case rel => exact ⟨k - 1, g2, c2, L2, by omega, by go_num, rfl, HN⟩
      case measure => simp [intOf]; omega
    · have hk0 : k = 0 := by omega
      subst hk0
      obtain ⟨b, n', c', K, LL', M, rfl, hI⟩ := HL.out.2.2.2.eps
      have HI : Hid (Ep.IsEps wr b n' c' K LL' M) := hI
      clear hI
      go_wp2
      go_ret2
      rw [HM.out]
      refine ⟨b, n', c', K, LL', M, _, _, _, atL L, rfl, HI.out, HL.out.1.strs, fun i hi => ?_, HL.out.2.2.2.dr.bel⟩
      have h1 := HL.out.2.2.1 ((L.getD i [])) (by simp only [List.getD, List.getElem?_eq_getElem hi, Option.getD_some]; exact List.getElem_mem hi)
      have h2 : (atL L i).toList = L.getD i [] := atL_list L i
      have h3 : (atL L i).size = (atL L i).toList.length := by rw [ByteArray.toList_eq]; simp
      rw [h3, h2]
      omega
end Go.Proofs.YtpcbhjejpebogaaGreatDoor
