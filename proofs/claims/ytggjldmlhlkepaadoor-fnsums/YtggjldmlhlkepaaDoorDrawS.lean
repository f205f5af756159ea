/-
  The drawn text of FnSums: whatever the code, DrawSum gives a text of at most 115 bytes. Condition: the code reads as bytes.
-/
import Derived.Test.YtggjldmlhlkepaaDoorTxt
namespace Go.Proofs.YtggjldmlhlkepaaDoor
open Go.RowKit
set_option linter.unusedVariables false

/-- a slice of bytes that reads as the numbers Z 0, Z 1, .. in world w -/
def IsU8 (w : World) (a : Option Addr) (len cap : Nat) (Z : Nat → Int) : Prop :=
  len ≤ cap ∧ cap ≤ 9223372036854775807 ∧ (∀ i, 0 ≤ Z i ∧ Z i ≤ 255) ∧ (0 < len → ∃ b off, a = some ⟨b, off, none⟩ ∧ b < w.heap.size ∧ ∀ i, i < len → w.cell? ⟨b, off + i, none⟩ = some (.int .u8 (Z i)))

/-- all blocks of w but R lie in w' as they lay -/
structure Mut (R : Nat) (w w' : World) : Prop where
  os : w'.os = w.os
  tape : w'.tape = w.tape
  output : w'.output = w.output
  size : w.heap.size ≤ w'.heap.size
  block : ∀ k, k < w.heap.size → k ≠ R → w'.heap[k]? = w.heap[k]?

theorem Mut.refl (R : Nat) (w : World) : Mut R w w := ⟨rfl, rfl, rfl, Nat.le_refl _, fun _ _ _ => rfl⟩
theorem Mut.trans {R : Nat} {a b c : World} (h : Mut R a b) (k : Mut R b c) : Mut R a c :=
  ⟨k.os.trans h.os, k.tape.trans h.tape, k.output.trans h.output, Nat.le_trans h.size k.size, fun i hi hr => (k.block i (Nat.lt_of_lt_of_le hi h.size) hr).trans (h.block i hi hr)⟩
theorem Mut.setCell {R : Nat} {a w : World} (h : Mut R a w) (o : Nat) (u : Value) : Mut R a (w.setCell ⟨R, o, none⟩ u) :=
  h.trans ⟨rfl, rfl, rfl, by simp [World.setCell], fun k _ hr => Below.heap_setCell _ _ _ _ hr⟩
theorem Mut.alloc {R : Nat} {a w : World} (h : Mut R a w) (o : Obj) : Mut R a (w.alloc o) :=
  h.trans ⟨rfl, rfl, rfl, by simp, fun k hk _ => Below.heap_alloc _ _ _ hk⟩
theorem Mut.drewN {R : Nat} {a w : World} (h : Mut R a w) (n : Nat) : Mut R a (w.drewN n) := h.trans ⟨rfl, rfl, rfl, Nat.le_refl _, fun _ _ _ => rfl⟩

/-- w is behind W; block R, new since W, holds a reader of the code -/
structure Draw (W : World) (a : Option Addr) (len cap R : Nat) (w : World) : Prop where
  bel : Below W.heap.size W w
  new : W.heap.size ≤ R
  box : ∃ p : Nat, p ≤ len ∧ w.heap[R]? = some (.cells #[.slice a len cap, .int .i64 p] 41 (0, 0))

theorem Draw.alloc {W : World} {a : Option Addr} {len cap R : Nat} {w : World} (h : Draw W a len cap R w) (o : Obj) : Draw W a len cap R (w.alloc o) := by
  obtain ⟨p, hp, hb⟩ := h.box
  exact ⟨h.bel.alloc (Nat.le_trans h.new (Nat.le_of_lt (lt_of_block hb))) o, h.new, p, hp, by rw [Below.heap_alloc _ _ _ (lt_of_block hb)]; exact hb⟩

theorem Draw.drewN {W : World} {a : Option Addr} {len cap R : Nat} {w : World} (h : Draw W a len cap R w) (n : Nat) : Draw W a len cap R (w.drewN n) :=
  ⟨h.bel.trans ⟨rfl, rfl, rfl, Nat.le_refl _, fun _ _ => rfl⟩, h.new, h.box⟩

section
variable {W : World} {a : Option Addr} {len cap R : Nat} {Z : Nat → Int}

set_option maxHeartbeats 400000 in
theorem next_any (hU : IsU8 W a len cap Z) (w : World) (h : Draw W a len cap R w) :
    Calls Tryd.prog 17 #[.pointer (some ⟨R, 0, none⟩)] w fun e w' => ∃ x : Int, 0 ≤ x ∧ x ≤ 255 ∧ e = .returned (.int .i64 x) ∧ Draw W a len cap R w' ∧ Mut R w w' := by
  obtain ⟨hlc, hcm, hrg, hc⟩ := hU
  obtain ⟨p, hp, hb⟩ := h.box
  have c0 : w.cell? ⟨R, 0, none⟩ = some (.slice a len cap) := by simp [World.cell?, hb]
  have c1 : w.cell? ⟨R, 1, none⟩ = some (.int .i64 p) := by simp [World.cell?, hb]
  have f1 : w.frozen? ⟨R, 1, none⟩ = false := by simp [World.frozen?, hb]
  have H : Hid (Draw W a len cap R w) := h
  have HB : Hid (w.heap[R]? = some (.cells #[.slice a len cap, .int .i64 p] 41 (0, 0))) := hb
  clear h hb
  by_cases hlt : p < len
  · have hge : decide ((len : Int) ≤ (p : Int)) = false := by simp; omega
    have hltI : (p : Int) < (len : Int) := by omega
    obtain ⟨b, off, rfl, hbs, hcell⟩ := hc (by omega)
    have hck : w.cell? ⟨b, off + p, none⟩ = some (.int .u8 (Z p)) := (H.out.bel.cell (p := ⟨b, off + p, none⟩) hbs).trans (hcell p hlt)
    have hRb : Hid (R ≠ b) := by
      show _ ≠ _
      have := H.out.new
      omega
    have hck' : ∀ nq, ((w.drewN nq).setCell ⟨R, 1, none⟩ (.int .i64 ((p : Int) + 1))).cell? ⟨b, off + p, none⟩ = some (.int .u8 (Z p)) := by
      intro nq
      rw [← hck]
      exact World.cell?_of_block (Below.heap_setCell _ _ _ _ (fun e => hRb.out e.symm))
    have hb' : Hid ((w.setCell ⟨R, 1, none⟩ (.int .i64 ((p : Int) + 1))).heap[R]? = some (.cells #[.slice (some ⟨b, off, none⟩) len cap, .int .i64 ((p + 1 : Nat) : Int)] 41 (0, 0))) := by
      show _ = _
      rw [heap_setCell_same w R 1 _ 41 _ HB.out]
      rfl
    have HD : Hid (∀ nq n, Draw W (some ⟨b, off, none⟩) len cap R (((w.drewN nq).setCell ⟨R, 1, none⟩ (.int .i64 ((p : Int) + 1))).drewN n)) := fun nq n =>
      Draw.drewN ⟨(H.out.drewN nq).bel.setCell (p := ⟨R, 1, none⟩) H.out.new _, H.out.new, p + 1, hlt, hb'.out⟩ n
    have hz := hrg p
    have hwp : IntKind.i64.wrap (p : Int) = (p : Int) := by rw [IntKind.wrap_i64]; omega
    clear hcell hc
    go_enter Tryd.func17, Tryd.ntmps17
    go_wp2
    go_quiet (fail)
    go_wp2
    go_quiet (fail)
    go_wp2
    go_ret
    exact ⟨Z p, hz.1, hz.2, rfl, HD.out _ _, (((Mut.refl R w).drewN _).setCell 1 _).drewN _⟩
  · have hge : decide ((len : Int) ≤ (p : Int)) = true := by simp; omega
    go_enter Tryd.func17, Tryd.ntmps17
    go_wp2
    go_quiet (fail)
    go_wp2
    go_ret
    exact ⟨0, by omega, by omega, rfl, H.out.drewN _, (Mut.refl R w).drewN _⟩

theorem below_any (hU : IsU8 W a len cap Z) (n : Int) (hn : 2 ≤ n) (hn2 : n ≤ 256) (w : World) (h : Draw W a len cap R w) :
    Calls Tryd.prog 11 #[.pointer (some ⟨R, 0, none⟩), .int .i64 n] w fun e w' => ∃ x : Int, 0 ≤ x ∧ x < n ∧ e = .returned (.int .i64 x) ∧ Draw W a len cap R w' ∧ Mut R w w' := by
  have h1 : ¬ n ≤ 1 := by omega
  have h0 : ¬ n = 0 := by omega
  go_enter Tryd.func11, Tryd.ntmps11
  go_wp2_with (go_at_call 17; refine (next_any hU _ h).mono ?_; rintro e w' ⟨x, hx0, hx1, rfl, hD, hM⟩)
  go_ret
  refine ⟨x % n, Int.emod_nonneg _ (by omega), Int.emod_lt_of_pos _ (by omega), rfl, hD, hM⟩

theorem Draw.lt {w : World} (h : Draw W a len cap R w) : R < w.heap.size := by
  obtain ⟨p, hp, hb⟩ := h.box
  exact lt_of_block hb

/-- a literal's own block behind a draw -/
theorem lit_cells {w w' : World} {cs : Array Value} {t : TypeId} (hM : Mut R (w.alloc (.cells cs t)) w') (hR : R < w.heap.size) (i : Nat) : w'.cell? ⟨w.heap.size, i, none⟩ = cs[i]? := by
  have hb : w'.heap[w.heap.size]? = some (.cells cs t (0, 0)) := (hM.block w.heap.size (by simp) (by omega)).trans (heap_alloc_new w _)
  simp [World.cell?, hb]

end

theorem big_any (a : Option Addr) (len cap : Nat) (w : World) : Calls Tryd.prog 4 #[.slice a len cap] w fun e w' => e = .returned (.bool (decide ((1048576 : Int) < (len : Int)))) ∧ w' = w := by
  go_enter Tryd.func4, Tryd.ntmps4
  go_wp2
  go_ret
  exact ⟨rfl, rfl⟩

theorem open_any (a : Option Addr) (len cap : Nat) (w : World) : Calls Tryd.prog 10 #[.slice a len cap] w fun e w' => e = .returned (.pointer (some ⟨w.heap.size, 0, none⟩)) ∧ Draw w a len cap w.heap.size w' := by
  go_enter Tryd.func10, Tryd.ntmps10
  go_wp2
  go_ret
  exact ⟨rfl, (Below.refl _ _).alloc (Nat.le_refl _) _, Nat.le_refl _, 0, Nat.zero_le _, heap_alloc_new w _⟩

/-- the text of one byte -/
def dgI (c : Int) : ByteArray := ⟨#[UInt8.ofNat c.toNat]⟩
theorem dgI_size (c : Int) : (dgI c).size = 1 := rfl

theorem byte_string (w : World) (c : Int) : (convert 22 9 (.slice (some ⟨w.heap.size, 0, none⟩) 1 1)).run Tryd.prog (w.alloc (.cells #[.int .u8 c] 5)) = .ok (.string (dgI c)) (w.alloc (.cells #[.int .u8 c] 5)) := by
  rw [run_convert_bytes_string _ 22 9 5 _ _ _ Tryd.underlying22 Tryd.underlying5 Tryd.underlying9]
  rw [run_bytesToString _ _ 1 1 [c] (by simp [loadCells, go_sem])]
  rfl

section
variable {W : World} {a : Option Addr} {len cap R : Nat} {Z : Nat → Int}

theorem Draw.below {w w' : World} (h : Draw W a len cap R w) (hB : Below w.heap.size w w') : Draw W a len cap R w' := by
  obtain ⟨p, hp, hb⟩ := h.box
  have hlt := lt_of_block hb
  exact ⟨h.bel.trans (hB.mono (Nat.le_trans h.new (Nat.le_of_lt hlt))), h.new, p, hp, (hB.block R hlt).trans hb⟩


set_option maxRecDepth 4000 in
set_option maxHeartbeats 800000 in
theorem drawSum_any (hU : IsU8 W a len cap Z) :
    Calls Tryd.prog 5 #[.slice a len cap] W fun e w' => ∃ t : ByteArray, t.size ≤ 115 ∧ e = .returned (.string t) ∧ Below W.heap.size W w' := by
  go_enter Tryd.func5, Tryd.ntmps5
  go_wp2_with (go_at_call 10; refine (open_any _ _ _ _).mono ?_; rintro e w1 ⟨rfl, hD⟩)
  refine (below_any hU 4 (by omega) (by omega) _ (hD.alloc _)).mono ?_
  rintro e w2 ⟨y, hy0, hy1, rfl, hD2, hM2⟩
  have hc := lit_cells hM2 hD.lt
  have c0 := hc 0
  have c1 := hc 1
  have c2 := hc 2
  have c3 := hc 3
  clear hc hM2 hD
  have hy : y = 0 ∨ y = 1 ∨ y = 2 ∨ y = 3 := by omega
  rcases hy with rfl | rfl | rfl | rfl
  · go_wp2_with (go_at_call 11; refine (below_any hU 60 (by omega) (by omega) _ hD2).mono ?_; rintro e w3 ⟨x, hx0, hx1, rfl, hD3, hM3⟩)
    go_loopw [4, 5] (fun x i wr => ∃ (t : ByteArray) (k : Nat), Hid (t.size + k ≤ 115) ∧ x = .string t ∧ i = .int .i64 k ∧ Draw W a len cap W.heap.size wr) (fun _ i _ => (intOf i).toNat)
    case atStart => exact ⟨_, x.toNat, by show _ ≤ _; rw [show (ByteArray.mk #[]).size = 0 from rfl]; omega, rfl, by rw [show ((x.toNat : Nat) : Int) = x by omega], hD3⟩
    case round =>
      obtain ⟨t, k, hk, rfl, rfl, hDr⟩ := hrel
      by_cases hp : 0 < k
      · have hpI : (0 : Int) < (k : Int) := by omega
        have hk39 : k ≤ 115 := by have := hk.out; omega
        have hadd : ∀ (c : Int) (w' : World), (Op.stringOp .add t (dgI c)).run Tryd.prog w' = .ok (.string (t ++ dgI c)) w' := fun c w' => add_ok (by have := hk.out; have := dgI_size c; omega) w'
        have hcv := byte_string
        go_wp2_with (go_at_call 11; refine (below_any hU 256 (by omega) (by omega) _ hDr).mono ?_; rintro e w4 ⟨y, hy0, hy1, rfl, hD4, hM4⟩)
        refine ⟨⟨t ++ dgI y, k - 1, ?_, rfl, ?_, hD4.alloc _⟩, ?_⟩
        · show _ ≤ _
          have := hk.out
          rw [ByteArray.size_append, dgI_size]
          omega
        · rw [show (((k - 1 : Nat)) : Int) = (k : Int) - 1 by omega]
        · simp [intOf]
          omega
      · have hk0 : k = 0 := by omega
        subst hk0
        go_wp2
        go_ret
        exact ⟨t, by have := hk.out; omega, rfl, hDr.bel⟩
  · go_wp2_with (go_at_call 11; refine (below_any hU 60 (by omega) (by omega) _ hD2).mono ?_; rintro e w3 ⟨x, hx0, hx1, rfl, hD3, hM3⟩)
    go_loopw [4, 5] (fun x i wr => ∃ (t : ByteArray) (k : Nat), Hid (t.size + k ≤ 115) ∧ x = .string t ∧ i = .int .i64 k ∧ Draw W a len cap W.heap.size wr) (fun _ i _ => (intOf i).toNat)
    case atStart => exact ⟨_, x.toNat, by show _ ≤ _; rw [show (ByteArray.mk #[97, 98, 99]).size = 3 from rfl]; omega, rfl, by rw [show ((x.toNat : Nat) : Int) = x by omega], hD3⟩
    case round =>
      obtain ⟨t, k, hk, rfl, rfl, hDr⟩ := hrel
      by_cases hp : 0 < k
      · have hpI : (0 : Int) < (k : Int) := by omega
        have hk39 : k ≤ 115 := by have := hk.out; omega
        have hadd : ∀ (c : Int) (w' : World), (Op.stringOp .add t (dgI c)).run Tryd.prog w' = .ok (.string (t ++ dgI c)) w' := fun c w' => add_ok (by have := hk.out; have := dgI_size c; omega) w'
        have hcv := byte_string
        go_wp2_with (go_at_call 11; refine (below_any hU 256 (by omega) (by omega) _ hDr).mono ?_; rintro e w4 ⟨y, hy0, hy1, rfl, hD4, hM4⟩)
        refine ⟨⟨t ++ dgI y, k - 1, ?_, rfl, ?_, hD4.alloc _⟩, ?_⟩
        · show _ ≤ _
          have := hk.out
          rw [ByteArray.size_append, dgI_size]
          omega
        · rw [show (((k - 1 : Nat)) : Int) = (k : Int) - 1 by omega]
        · simp [intOf]
          omega
      · have hk0 : k = 0 := by omega
        subst hk0
        go_wp2
        go_ret
        exact ⟨t, by have := hk.out; omega, rfl, hDr.bel⟩
  · go_wp2_with (go_at_call 11; refine (below_any hU 60 (by omega) (by omega) _ hD2).mono ?_; rintro e w3 ⟨x, hx0, hx1, rfl, hD3, hM3⟩)
    go_loopw [4, 5] (fun x i wr => ∃ (t : ByteArray) (k : Nat), Hid (t.size + k ≤ 115) ∧ x = .string t ∧ i = .int .i64 k ∧ Draw W a len cap W.heap.size wr) (fun _ i _ => (intOf i).toNat)
    case atStart => exact ⟨_, x.toNat, by show _ ≤ _; rw [show (ByteArray.mk #[97, 98, 99, 100, 98, 99, 100, 101, 99, 100, 101, 102, 100, 101, 102, 103, 101, 102, 103, 104, 102, 103, 104, 105, 103, 104, 105, 106, 104, 105, 106, 107, 105, 106, 107, 108, 106, 107, 108, 109, 107, 108, 109, 110, 108, 109, 110, 111, 109, 110, 111, 112, 110, 111, 112, 113]).size = 56 from rfl]; omega, rfl, by rw [show ((x.toNat : Nat) : Int) = x by omega], hD3⟩
    case round =>
      obtain ⟨t, k, hk, rfl, rfl, hDr⟩ := hrel
      by_cases hp : 0 < k
      · have hpI : (0 : Int) < (k : Int) := by omega
        have hk39 : k ≤ 115 := by have := hk.out; omega
        have hadd : ∀ (c : Int) (w' : World), (Op.stringOp .add t (dgI c)).run Tryd.prog w' = .ok (.string (t ++ dgI c)) w' := fun c w' => add_ok (by have := hk.out; have := dgI_size c; omega) w'
        have hcv := byte_string
        go_wp2_with (go_at_call 11; refine (below_any hU 256 (by omega) (by omega) _ hDr).mono ?_; rintro e w4 ⟨y, hy0, hy1, rfl, hD4, hM4⟩)
        refine ⟨⟨t ++ dgI y, k - 1, ?_, rfl, ?_, hD4.alloc _⟩, ?_⟩
        · show _ ≤ _
          have := hk.out
          rw [ByteArray.size_append, dgI_size]
          omega
        · rw [show (((k - 1 : Nat)) : Int) = (k : Int) - 1 by omega]
        · simp [intOf]
          omega
      · have hk0 : k = 0 := by omega
        subst hk0
        go_wp2
        go_ret
        exact ⟨t, by have := hk.out; omega, rfl, hDr.bel⟩
  · go_wp2_with (go_at_call 11; refine (below_any hU 60 (by omega) (by omega) _ hD2).mono ?_; rintro e w3 ⟨x, hx0, hx1, rfl, hD3, hM3⟩)
    go_loopw [4, 5] (fun x i wr => ∃ (t : ByteArray) (k : Nat), Hid (t.size + k ≤ 115) ∧ x = .string t ∧ i = .int .i64 k ∧ Draw W a len cap W.heap.size wr) (fun _ i _ => (intOf i).toNat)
    case atStart => exact ⟨_, x.toNat, by show _ ≤ _; rw [show (ByteArray.mk #[97]).size = 1 from rfl]; omega, rfl, by rw [show ((x.toNat : Nat) : Int) = x by omega], hD3⟩
    case round =>
      obtain ⟨t, k, hk, rfl, rfl, hDr⟩ := hrel
      by_cases hp : 0 < k
      · have hpI : (0 : Int) < (k : Int) := by omega
        have hk39 : k ≤ 115 := by have := hk.out; omega
        have hadd : ∀ (c : Int) (w' : World), (Op.stringOp .add t (dgI c)).run Tryd.prog w' = .ok (.string (t ++ dgI c)) w' := fun c w' => add_ok (by have := hk.out; have := dgI_size c; omega) w'
        have hcv := byte_string
        go_wp2_with (go_at_call 11; refine (below_any hU 256 (by omega) (by omega) _ hDr).mono ?_; rintro e w4 ⟨y, hy0, hy1, rfl, hD4, hM4⟩)
        refine ⟨⟨t ++ dgI y, k - 1, ?_, rfl, ?_, hD4.alloc _⟩, ?_⟩
        · show _ ≤ _
          have := hk.out
          rw [ByteArray.size_append, dgI_size]
          omega
        · rw [show (((k - 1 : Nat)) : Int) = (k : Int) - 1 by omega]
        · simp [intOf]
          omega
      · have hk0 : k = 0 := by omega
        subst hk0
        go_wp2
        go_ret
        exact ⟨t, by have := hk.out; omega, rfl, hDr.bel⟩
end
end Go.Proofs.YtggjldmlhlkepaaDoor
