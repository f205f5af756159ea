/-
  The reader of codes, its small methods, beside the texts of terms: whatever the code, they return a number in its range, and leave all memory but the reader's own as it was. Condition: the code reads as bytes.
  r.term: a drawn term's text, with numbers up to 3, no deeper than it was asked. Condition: the code reads as bytes.
  r.known: drawn knowledge: at most eight texts of drawn terms, in a slice of its own. Condition: the code reads as bytes.
  The draws of knowledge alone. Condition: the code reads as bytes.
-/
import Derived.Test.YtpcbhjejpebogaaDoorOqE
namespace Go.Proofs.YtpcbhjejpebogaaDoor
open Go.RowKit
set_option linter.unusedVariables false

/-- a slice of bytes that reads as the numbers Z 0, Z 1, .. in world w -/
def IsU8 (w : World) (a : Option Addr) (len cap : Nat) (Z : Nat → Int) : Prop :=
  len ≤ cap ∧ cap ≤ 9223372036854775807 ∧ (∀ i, 0 ≤ Z i ∧ Z i ≤ 255) ∧ (0 < len → ∃ b off, a = some ⟨b, off, none⟩ ∧ b < w.heap.size ∧ ∀ i, i < len → w.cell? ⟨b, off + i, none⟩ = some (.int .u8 (Z i)))

/-- w is behind W; block R, new since W, holds a reader of the code -/
structure Draw (W : World) (a : Option Addr) (len cap R : Nat) (w : World) : Prop where
  bel : Below W.heap.size W w
  new : W.heap.size ≤ R
  box : ∃ p : Nat, p ≤ len ∧ w.heap[R]? = some (.cells #[.slice a len cap, .int .i64 p] 124 (0, 0))

theorem Draw.alloc {W : World} {a : Option Addr} {len cap R : Nat} {w : World} (h : Draw W a len cap R w) (o : Obj) : Draw W a len cap R (w.alloc o) := by
  obtain ⟨p, hp, hb⟩ := h.box
  exact ⟨h.bel.alloc (Nat.le_trans h.new (Nat.le_of_lt (lt_of_block hb))) o, h.new, p, hp, by rw [Below.heap_alloc _ _ _ (lt_of_block hb)]; exact hb⟩

theorem Draw.below {W : World} {a : Option Addr} {len cap R : Nat} {w w' : World} (h : Draw W a len cap R w) (hB : Below w.heap.size w w') : Draw W a len cap R w' := by
  obtain ⟨p, hp, hb⟩ := h.box
  exact ⟨h.bel.trans (hB.mono h.bel.size), h.new, p, hp, (hB.block _ (lt_of_block hb)).trans hb⟩
theorem Mut.of_below {R : Nat} {w w' : World} (h : Below w.heap.size w w') : Mut R w w' := ⟨h.os, h.tape, h.output, h.size, fun k hk _ => h.block k hk⟩
theorem Draw.drewN {W : World} {a : Option Addr} {len cap R : Nat} {w : World} (h : Draw W a len cap R w) (n : Nat) : Draw W a len cap R (w.drewN n) :=
  ⟨h.bel.trans ⟨rfl, rfl, rfl, Nat.le_refl _, fun _ _ => rfl⟩, h.new, h.box⟩

theorem big_any (a : Option Addr) (len cap : Nat) (w : World) : Calls Tryd.prog 26 #[.slice a len cap] w fun e w' => e = .returned (.bool (decide ((1048576 : Int) < (len : Int)))) ∧ w' = w := by
  go_enter Tryd.func26, Tryd.ntmps26
  go_wp2
  go_ret
  exact ⟨rfl, rfl⟩

theorem open_any (a : Option Addr) (len cap : Nat) (w : World) : Calls Tryd.prog 56 #[.slice a len cap] w fun e w' => e = .returned (.pointer (some ⟨w.heap.size, 0, none⟩)) ∧ Draw w a len cap w.heap.size w' := by
  go_enter Tryd.func56, Tryd.ntmps56
  go_wp2
  go_ret
  exact ⟨rfl, (Below.refl _ _).alloc (Nat.le_refl _) _, Nat.le_refl _, 0, Nat.zero_le _, heap_alloc_new w _⟩

section
variable {W : World} {a : Option Addr} {len cap R : Nat} {Z : Nat → Int}

set_option maxHeartbeats 400000 in
theorem next_any (hU : IsU8 W a len cap Z) (w : World) (h : Draw W a len cap R w) :
    Calls Tryd.prog 85 #[.pointer (some ⟨R, 0, none⟩)] w fun e w' => ∃ x : Int, 0 ≤ x ∧ x ≤ 255 ∧ e = .returned (.int .i64 x) ∧ Draw W a len cap R w' ∧ Mut R w w' := by
  obtain ⟨hlc, hcm, hrg, hc⟩ := hU
  obtain ⟨p, hp, hb⟩ := h.box
  have c0 : w.cell? ⟨R, 0, none⟩ = some (.slice a len cap) := by simp [World.cell?, hb]
  have c1 : w.cell? ⟨R, 1, none⟩ = some (.int .i64 p) := by simp [World.cell?, hb]
  have f1 : w.frozen? ⟨R, 1, none⟩ = false := by simp [World.frozen?, hb]
  have H : Hid (Draw W a len cap R w) := h
  have HB : Hid (w.heap[R]? = some (.cells #[.slice a len cap, .int .i64 p] 124 (0, 0))) := hb
  clear h hb
  by_cases hlt : p < len
  · have hge : decide ((len : Int) ≤ (p : Int)) = false := by simp; omega
    have hltI : (p : Int) < (len : Int) := by omega
    obtain ⟨b, off, rfl, hbs, hcell⟩ := hc (by omega)
    have hck : w.cell? ⟨b, off + p, none⟩ = some (.int .u8 (Z p)) := (H.out.bel.cell (p := ⟨b, off + p, none⟩) hbs).trans (hcell p hlt)
    have hRb : Hid (R ≠ b) := by
      show _ ≠ _
      have := H.out.new
      omega
    have hck' : ∀ nq, ((w.drewN nq).setCell ⟨R, 1, none⟩ (.int .i64 ((p : Int) + 1))).cell? ⟨b, off + p, none⟩ = some (.int .u8 (Z p)) := by
      intro nq
      rw [← hck]
      exact World.cell?_of_block (Below.heap_setCell _ _ _ _ (fun e => hRb.out e.symm))
    have hb' : Hid ((w.setCell ⟨R, 1, none⟩ (.int .i64 ((p : Int) + 1))).heap[R]? = some (.cells #[.slice (some ⟨b, off, none⟩) len cap, .int .i64 ((p + 1 : Nat) : Int)] 124 (0, 0))) := by
      show _ = _
      rw [heap_setCell_same w R 1 _ 124 _ HB.out]
      rfl
    have HD : Hid (∀ nq n, Draw W (some ⟨b, off, none⟩) len cap R (((w.drewN nq).setCell ⟨R, 1, none⟩ (.int .i64 ((p : Int) + 1))).drewN n)) := fun nq n =>
      Draw.drewN ⟨(H.out.drewN nq).bel.setCell (p := ⟨R, 1, none⟩) H.out.new _, H.out.new, p + 1, hlt, hb'.out⟩ n
    have hz := hrg p
    have hwp : IntKind.i64.wrap (p : Int) = (p : Int) := by rw [IntKind.wrap_i64]; omega
    clear hcell hc
    go_enter Tryd.func85, Tryd.ntmps85
    go_wp2
    go_quiet (fail)
    go_wp2
    go_quiet (fail)
    go_wp2
    go_ret
    exact ⟨Z p, hz.1, hz.2, rfl, HD.out _ _, (((Mut.refl R w).drewN _).setCell 1 _).drewN _⟩
  · have hge : decide ((len : Int) ≤ (p : Int)) = true := by simp; omega
    go_enter Tryd.func85, Tryd.ntmps85
    go_wp2
    go_quiet (fail)
    go_wp2
    go_ret
    exact ⟨0, by omega, by omega, rfl, H.out.drewN _, (Mut.refl R w).drewN _⟩

theorem below_any (hU : IsU8 W a len cap Z) (n : Int) (hn : 2 ≤ n) (hn2 : n ≤ 256) (w : World) (h : Draw W a len cap R w) :
    Calls Tryd.prog 59 #[.pointer (some ⟨R, 0, none⟩), .int .i64 n] w fun e w' => ∃ x : Int, 0 ≤ x ∧ x < n ∧ e = .returned (.int .i64 x) ∧ Draw W a len cap R w' ∧ Mut R w w' := by
  have h1 : ¬ n ≤ 1 := by omega
  have h0 : ¬ n = 0 := by omega
  go_enter Tryd.func59, Tryd.ntmps59
  go_wp2_with (go_at_call 85; refine (next_any hU _ h).mono ?_; rintro e w' ⟨x, hx0, hx1, rfl, hD, hM⟩)
  go_ret
  refine ⟨x % n, Int.emod_nonneg _ (by omega), Int.emod_lt_of_pos _ (by omega), rfl, hD, hM⟩

theorem once_any (hU : IsU8 W a len cap Z) (n : Int) (hn : 2 ≤ n) (hn2 : n ≤ 256) (w : World) (h : Draw W a len cap R w) :
    Calls Tryd.prog 58 #[.pointer (some ⟨R, 0, none⟩), .int .i64 n] w fun e w' => ∃ x : Bool, e = .returned (.bool x) ∧ Draw W a len cap R w' ∧ Mut R w w' := by
  go_enter Tryd.func58, Tryd.ntmps58
  go_wp2_with (go_at_call 59; refine (below_any hU n hn hn2 _ h).mono ?_; rintro e w' ⟨x, hx0, hx1, rfl, hD, hM⟩)
  go_ret
  exact ⟨_, rfl, hD, hM⟩

theorem Draw.lt {w : World} (h : Draw W a len cap R w) : R < w.heap.size := by
  obtain ⟨p, hp, hb⟩ := h.box
  exact lt_of_block hb

/-- a literal's own block behind a draw -/
theorem lit_cells {w w' : World} {cs : Array Value} {t : TypeId} (hM : Mut R (w.alloc (.cells cs t)) w') (hR : R < w.heap.size) (i : Nat) : w'.cell? ⟨w.heap.size, i, none⟩ = cs[i]? := by
  have hb : w'.heap[w.heap.size]? = some (.cells cs t (0, 0)) := (hM.block w.heap.size (by simp) (by omega)).trans (heap_alloc_new w _)
  simp [World.cell?, hb]

theorem below1_any (w : World) (h : Draw W a len cap R w) :
    Calls Tryd.prog 59 #[.pointer (some ⟨R, 0, none⟩), .int .i64 1] w fun e w' => e = .returned (.int .i64 0) ∧ w' = w := by
  go_enter Tryd.func59, Tryd.ntmps59
  go_wp2
  go_ret
  exact ⟨rfl, rfl⟩
theorem belowN_any (hU : IsU8 W a len cap Z) (n : Nat) (hn : 1 ≤ n) (hn2 : n ≤ 256) (w : World) (h : Draw W a len cap R w) :
    Calls Tryd.prog 59 #[.pointer (some ⟨R, 0, none⟩), .int .i64 (n : Int)] w fun e w' => ∃ y : Nat, y < n ∧ e = .returned (.int .i64 (y : Int)) ∧ Draw W a len cap R w' ∧ Mut R w w' := by
  by_cases h1 : n = 1
  · subst h1
    refine (below1_any w h).mono ?_
    rintro e w' ⟨rfl, rfl⟩
    exact ⟨0, by omega, rfl, h, Mut.refl _ _⟩
  · refine (below_any hU (n : Int) (by omega) (by omega) w h).mono ?_
    rintro e w' ⟨y, h0, h2, rfl, hD, hM⟩
    exact ⟨y.toNat, by omega, by rw [Int.toNat_of_nonneg h0], hD, hM⟩

end
end Go.Proofs.YtpcbhjejpebogaaDoor

namespace Go.Proofs.YtpcbhjejpebogaaDoor
open Go.RowKit
set_option linter.unusedVariables false
set_option linter.unusedSimpArgs false

/-- a term whose numbers are at most 3 -/
def LowT : Tr → Prop
  | ⟨.inl (k, n)⟩ => (k = 1 ∨ k = 2 ∨ k = 3) ∧ n ≤ 3
  | ⟨.inr (.inl t)⟩ => LowT t
  | ⟨.inr (.inr (.inl (t, u)))⟩ => LowT t ∧ LowT u
  | ⟨.inr (.inr (.inr (k, n, t)))⟩ => (k = 6 ∨ k = 7) ∧ n ≤ 3 ∧ LowT t
theorem LowT.ok : ∀ t : Tr, LowT t → t.Ok
  | ⟨.inl (k, n)⟩, h => by rw [LowT] at h; exact ⟨h.1, by omega⟩
  | ⟨.inr (.inl t)⟩, h => by rw [LowT] at h; exact LowT.ok t h
  | ⟨.inr (.inr (.inl (t, u)))⟩, h => by rw [LowT] at h; exact ⟨LowT.ok t h.1, LowT.ok u h.2⟩
  | ⟨.inr (.inr (.inr (k, n, t)))⟩, h => by rw [LowT] at h; exact ⟨h.1, by omega, LowT.ok t h.2.2⟩
/-- a drawn term -/
def TD (f : Nat) (t : Tr) : Prop := LowT t ∧ t.size + 1 ≤ 2 ^ (f + 1) ∧ t.deep ≤ f + 1
theorem TD.fit {f : Nat} {t : Tr} (hf : f ≤ 4) (h : TD f t) : Fit t := by
  obtain ⟨h1, h2, h3⟩ := h
  have : 2 ^ (f + 1) ≤ 2 ^ 5 := Nat.pow_le_pow_right (by decide) (by omega)
  exact ⟨h1.ok, by omega, by omega⟩
theorem TD.small {f : Nat} {t : Tr} (hf : f ≤ 4) (h : TD f t) : t.txt.size ≤ 32000 := by
  obtain ⟨h1, h2, h3⟩ := h
  have : 2 ^ (f + 1) ≤ 2 ^ 5 := Nat.pow_le_pow_right (by decide) (by omega)
  have := Tr.txt_size t h1.ok
  omega
theorem TD.leaf {f k n : Nat} (hk : k = 1 ∨ k = 2 ∨ k = 3) (hn : n ≤ 3) : TD f ⟨.inl (k, n)⟩ := by
  have : 1 ≤ 2 ^ f := Nat.one_le_two_pow
  exact ⟨by rw [LowT]; exact ⟨hk, hn⟩, by rw [Tr.size, Nat.pow_succ]; omega, by rw [Tr.deep]; omega⟩
theorem TD.hash {f : Nat} {t : Tr} (h : TD f t) : TD (f + 1) ⟨.inr (.inl t)⟩ := by
  obtain ⟨h1, h2, h3⟩ := h
  have : 1 ≤ 2 ^ (f + 1) := Nat.one_le_two_pow
  exact ⟨by rw [LowT]; exact h1, by rw [Tr.size, Nat.pow_succ]; omega, by rw [Tr.deep]; omega⟩
theorem TD.keyed {f k n : Nat} {t : Tr} (hk : k = 6 ∨ k = 7) (hn : n ≤ 3) (h : TD f t) : TD (f + 1) ⟨.inr (.inr (.inr (k, n, t)))⟩ := by
  obtain ⟨h1, h2, h3⟩ := h
  have : 1 ≤ 2 ^ (f + 1) := Nat.one_le_two_pow
  exact ⟨by rw [LowT]; exact ⟨hk, hn, h1⟩, by rw [Tr.size, Nat.pow_succ]; omega, by rw [Tr.deep]; omega⟩
theorem TD.pair {f : Nat} {t u : Tr} (h : TD f t) (k : TD f u) : TD (f + 1) ⟨.inr (.inr (.inl (t, u)))⟩ := by
  obtain ⟨h1, h2, h3⟩ := h
  obtain ⟨k1, k2, k3⟩ := k
  exact ⟨by rw [LowT]; exact ⟨h1, k1⟩, by rw [Tr.size, Nat.pow_succ]; omega, by rw [Tr.deep]; omega⟩
theorem decS {n : Nat} (h : n ≤ 3) : (decB n).size ≤ 4 := by have := decB_size n; omega
section
variable {W : World} {a : Option Addr} {len cap R : Nat} {Z : Nat → Int}

set_option maxRecDepth 8000 in
set_option maxHeartbeats 4000000 in
theorem drZero (hU : IsU8 W a len cap Z) (w : World) (h : Draw W a len cap R w) :
    Calls Tryd.prog 60 #[.pointer (some ⟨R, 0, none⟩), .int .i64 0] w fun e w' => ∃ t : Tr, TD 0 t ∧ e = .returned (.string t.txt) ∧ Draw W a len cap R w' ∧ Mut R w w' := by
  have HD : Hid (Draw W a len cap R w) := h
  clear h
  go_enter Tryd.func60, Tryd.ntmps60
  go_wp2_with fail
  refine (below_any hU 4 (by omega) (by omega) w HD.out).mono ?_
  rintro e w1 ⟨x, hx0, hx1, rfl, hD1, hM1⟩
  have HD1 : Hid (Draw W a len cap R w1 ∧ Mut R w w1) := ⟨hD1, hM1⟩
  clear hD1 hM1
  obtain ⟨n, rfl⟩ : ∃ n : Nat, x = (n : Int) := ⟨x.toNat, by omega⟩
  have hn : n ≤ 3 := by omega
  have HN : Hid (n ≤ 3) := hn
  have hwn : IntKind.i64.wrap (n : Int) = (n : Int) := by rw [IntKind.wrap_i64]; omega
  go_wp2_with fail
  refine (l1Dec_any n (by omega) w1).mono ?_
  rintro e w2 ⟨rfl, hB2⟩
  have HD2 : Hid (Draw W a len cap R w2 ∧ Mut R w w2) := ⟨HD1.out.1.below hB2, HD1.out.2.trans (Mut.of_below hB2)⟩
  clear hB2 hx0 hx1
  obtain ⟨D, hD⟩ : ∃ D, D = decB n := ⟨_, rfl⟩
  have hDs : D.size ≤ 4 := by rw [hD]; exact decS hn
  have HDD : Hid (D = decB n) := hD
  rw [← hD]
  clear hD hn hwn
  go_wp2_with fail
  refine (below_any hU 10 (by omega) (by omega) w2 HD2.out.1).mono ?_
  rintro e w3 ⟨y, hy0, hy1, rfl, hD3, hM3⟩
  have HD3 : Hid (Draw W a len cap R w3 ∧ Mut R w w3) := ⟨hD3, HD2.out.2.trans hM3⟩
  clear hD3 hM3
  go_wp2_with fail
  refine (below_any hU 4 (by omega) (by omega) w3 HD3.out.1).mono ?_
  rintro e w4 ⟨z, hz0, hz1, rfl, hD4, hM4⟩
  have HD4 : Hid (Draw W a len cap R w4 ∧ Mut R w w4) := ⟨hD4, HD3.out.2.trans hM4⟩
  clear hD4 hM4
  have hz : z = 0 ∨ z = 1 ∨ z = 2 ∨ z = 3 := by omega
  clear hz0 hz1 hy0 hy1
  rcases hz with rfl | rfl | rfl | rfl
  · skip
    have ad : ∀ v : World, (Op.stringOp .add (⟨#[97]⟩) (D)).run Tryd.prog v = .ok (.string ((⟨#[97]⟩) ++ (D))) v := fun v => add_ok (by (try simp only [ByteArray.size_append]); (try simp only [show (ByteArray.mk #[97]).size = 1 from rfl, show (ByteArray.mk #[107]).size = 1 from rfl, show (ByteArray.mk #[118]).size = 1 from rfl, show (ByteArray.mk #[44]).size = 1 from rfl, show (ByteArray.mk #[41]).size = 1 from rfl, show (ByteArray.mk #[104, 40]).size = 2 from rfl, show (ByteArray.mk #[112, 40]).size = 2 from rfl, show (ByteArray.mk #[101, 40, 107]).size = 3 from rfl, show (ByteArray.mk #[115, 40, 107]).size = 3 from rfl]); omega) v
    go_wp2
    go_ret
    exact ⟨⟨.inl (1, n)⟩, TD.leaf (by omega) HN.out, by rw [Tr.txt, ← HDD.out]; rfl, HD4.out.1, HD4.out.2⟩
  · skip
    have ad : ∀ v : World, (Op.stringOp .add (⟨#[97]⟩) (D)).run Tryd.prog v = .ok (.string ((⟨#[97]⟩) ++ (D))) v := fun v => add_ok (by (try simp only [ByteArray.size_append]); (try simp only [show (ByteArray.mk #[97]).size = 1 from rfl, show (ByteArray.mk #[107]).size = 1 from rfl, show (ByteArray.mk #[118]).size = 1 from rfl, show (ByteArray.mk #[44]).size = 1 from rfl, show (ByteArray.mk #[41]).size = 1 from rfl, show (ByteArray.mk #[104, 40]).size = 2 from rfl, show (ByteArray.mk #[112, 40]).size = 2 from rfl, show (ByteArray.mk #[101, 40, 107]).size = 3 from rfl, show (ByteArray.mk #[115, 40, 107]).size = 3 from rfl]); omega) v
    go_wp2
    go_ret
    exact ⟨⟨.inl (1, n)⟩, TD.leaf (by omega) HN.out, by rw [Tr.txt, ← HDD.out]; rfl, HD4.out.1, HD4.out.2⟩
  · skip
    have ad : ∀ v : World, (Op.stringOp .add (⟨#[107]⟩) (D)).run Tryd.prog v = .ok (.string ((⟨#[107]⟩) ++ (D))) v := fun v => add_ok (by (try simp only [ByteArray.size_append]); (try simp only [show (ByteArray.mk #[97]).size = 1 from rfl, show (ByteArray.mk #[107]).size = 1 from rfl, show (ByteArray.mk #[118]).size = 1 from rfl, show (ByteArray.mk #[44]).size = 1 from rfl, show (ByteArray.mk #[41]).size = 1 from rfl, show (ByteArray.mk #[104, 40]).size = 2 from rfl, show (ByteArray.mk #[112, 40]).size = 2 from rfl, show (ByteArray.mk #[101, 40, 107]).size = 3 from rfl, show (ByteArray.mk #[115, 40, 107]).size = 3 from rfl]); omega) v
    go_wp2
    go_ret
    exact ⟨⟨.inl (2, n)⟩, TD.leaf (by omega) HN.out, by rw [Tr.txt, ← HDD.out]; rfl, HD4.out.1, HD4.out.2⟩
  · skip
    have ad : ∀ v : World, (Op.stringOp .add (⟨#[118]⟩) (D)).run Tryd.prog v = .ok (.string ((⟨#[118]⟩) ++ (D))) v := fun v => add_ok (by (try simp only [ByteArray.size_append]); (try simp only [show (ByteArray.mk #[97]).size = 1 from rfl, show (ByteArray.mk #[107]).size = 1 from rfl, show (ByteArray.mk #[118]).size = 1 from rfl, show (ByteArray.mk #[44]).size = 1 from rfl, show (ByteArray.mk #[41]).size = 1 from rfl, show (ByteArray.mk #[104, 40]).size = 2 from rfl, show (ByteArray.mk #[112, 40]).size = 2 from rfl, show (ByteArray.mk #[101, 40, 107]).size = 3 from rfl, show (ByteArray.mk #[115, 40, 107]).size = 3 from rfl]); omega) v
    go_wp2
    go_ret
    exact ⟨⟨.inl (3, n)⟩, TD.leaf (by omega) HN.out, by rw [Tr.txt, ← HDD.out]; rfl, HD4.out.1, HD4.out.2⟩

set_option maxRecDepth 8000 in
set_option maxHeartbeats 60000000 in
theorem drSucc (hU : IsU8 W a len cap Z) (f : Nat) (hf : f ≤ 3) (ih : ∀ (w : World), Draw W a len cap R w → Calls Tryd.prog 60 #[.pointer (some ⟨R, 0, none⟩), .int .i64 (f : Int)] w fun e w' => ∃ t : Tr, TD f t ∧ e = .returned (.string t.txt) ∧ Draw W a len cap R w' ∧ Mut R w w') (w : World) (h : Draw W a len cap R w) :
    Calls Tryd.prog 60 #[.pointer (some ⟨R, 0, none⟩), .int .i64 (((f + 1 : Nat)) : Int)] w fun e w' => ∃ t : Tr, TD (f + 1) t ∧ e = .returned (.string t.txt) ∧ Draw W a len cap R w' ∧ Mut R w w' := by
  obtain ⟨d, hd⟩ : ∃ d : Int, d = ((f + 1 : Nat) : Int) := ⟨_, rfl⟩
  rw [← hd]
  have hd0 : (d == 0) = false := by rw [beq_eq_false_iff_ne]; omega
  have hd1 : d - 1 = (f : Int) := by omega
  have hwf : wrap64 (f : Int) = (f : Int) := by unfold wrap64; omega
  have hdn : ¬ d = 0 := by omega
  have HIH : Hid (∀ (w : World), Draw W a len cap R w → Calls Tryd.prog 60 #[.pointer (some ⟨R, 0, none⟩), .int .i64 (f : Int)] w fun e w' => ∃ t : Tr, TD f t ∧ e = .returned (.string t.txt) ∧ Draw W a len cap R w' ∧ Mut R w w') := ih
  have HF : Hid (f ≤ 3) := hf
  clear ih hd hf
  have HD : Hid (Draw W a len cap R w) := h
  clear h
  go_enter Tryd.func60, Tryd.ntmps60
  go_wp2_with fail
  refine (below_any hU 4 (by omega) (by omega) w HD.out).mono ?_
  rintro e w1 ⟨x, hx0, hx1, rfl, hD1, hM1⟩
  have HD1 : Hid (Draw W a len cap R w1 ∧ Mut R w w1) := ⟨hD1, hM1⟩
  clear hD1 hM1
  obtain ⟨n, rfl⟩ : ∃ n : Nat, x = (n : Int) := ⟨x.toNat, by omega⟩
  have hn : n ≤ 3 := by omega
  have HN : Hid (n ≤ 3) := hn
  have hwn : IntKind.i64.wrap (n : Int) = (n : Int) := by rw [IntKind.wrap_i64]; omega
  go_wp2_with fail
  refine (l1Dec_any n (by omega) w1).mono ?_
  rintro e w2 ⟨rfl, hB2⟩
  have HD2 : Hid (Draw W a len cap R w2 ∧ Mut R w w2) := ⟨HD1.out.1.below hB2, HD1.out.2.trans (Mut.of_below hB2)⟩
  clear hB2 hx0 hx1
  obtain ⟨D, hD⟩ : ∃ D, D = decB n := ⟨_, rfl⟩
  have hDs : D.size ≤ 4 := by rw [hD]; exact decS hn
  have HDD : Hid (D = decB n) := hD
  rw [← hD]
  clear hD hn hwn
  go_wp2_with fail
  refine (below_any hU 10 (by omega) (by omega) w2 HD2.out.1).mono ?_
  rintro e w3 ⟨y, hy0, hy1, rfl, hD3, hM3⟩
  have HD3 : Hid (Draw W a len cap R w3 ∧ Mut R w w3) := ⟨hD3, HD2.out.2.trans hM3⟩
  clear hD3 hM3
  have hy : y = 0 ∨ y = 1 ∨ y = 2 ∨ y = 3 ∨ y = 4 ∨ y = 5 ∨ y = 6 ∨ y = 7 ∨ y = 8 ∨ y = 9 := by omega
  clear hy0 hy1
  rcases hy with rfl | rfl | rfl | rfl | rfl | rfl | rfl | rfl | rfl | rfl
  · skip
    have ad : ∀ v : World, (Op.stringOp .add (⟨#[97]⟩) (D)).run Tryd.prog v = .ok (.string ((⟨#[97]⟩) ++ (D))) v := fun v => add_ok (by (try simp only [ByteArray.size_append]); (try simp only [show (ByteArray.mk #[97]).size = 1 from rfl, show (ByteArray.mk #[107]).size = 1 from rfl, show (ByteArray.mk #[118]).size = 1 from rfl, show (ByteArray.mk #[44]).size = 1 from rfl, show (ByteArray.mk #[41]).size = 1 from rfl, show (ByteArray.mk #[104, 40]).size = 2 from rfl, show (ByteArray.mk #[112, 40]).size = 2 from rfl, show (ByteArray.mk #[101, 40, 107]).size = 3 from rfl, show (ByteArray.mk #[115, 40, 107]).size = 3 from rfl]); omega) v
    go_wp2
    go_ret
    exact ⟨⟨.inl (1, n)⟩, TD.leaf (by omega) HN.out, by rw [Tr.txt, ← HDD.out]; rfl, HD3.out.1, HD3.out.2⟩
  · skip
    have ad : ∀ v : World, (Op.stringOp .add (⟨#[97]⟩) (D)).run Tryd.prog v = .ok (.string ((⟨#[97]⟩) ++ (D))) v := fun v => add_ok (by (try simp only [ByteArray.size_append]); (try simp only [show (ByteArray.mk #[97]).size = 1 from rfl, show (ByteArray.mk #[107]).size = 1 from rfl, show (ByteArray.mk #[118]).size = 1 from rfl, show (ByteArray.mk #[44]).size = 1 from rfl, show (ByteArray.mk #[41]).size = 1 from rfl, show (ByteArray.mk #[104, 40]).size = 2 from rfl, show (ByteArray.mk #[112, 40]).size = 2 from rfl, show (ByteArray.mk #[101, 40, 107]).size = 3 from rfl, show (ByteArray.mk #[115, 40, 107]).size = 3 from rfl]); omega) v
    go_wp2
    go_ret
    exact ⟨⟨.inl (1, n)⟩, TD.leaf (by omega) HN.out, by rw [Tr.txt, ← HDD.out]; rfl, HD3.out.1, HD3.out.2⟩
  · skip
    have ad : ∀ v : World, (Op.stringOp .add (⟨#[107]⟩) (D)).run Tryd.prog v = .ok (.string ((⟨#[107]⟩) ++ (D))) v := fun v => add_ok (by (try simp only [ByteArray.size_append]); (try simp only [show (ByteArray.mk #[97]).size = 1 from rfl, show (ByteArray.mk #[107]).size = 1 from rfl, show (ByteArray.mk #[118]).size = 1 from rfl, show (ByteArray.mk #[44]).size = 1 from rfl, show (ByteArray.mk #[41]).size = 1 from rfl, show (ByteArray.mk #[104, 40]).size = 2 from rfl, show (ByteArray.mk #[112, 40]).size = 2 from rfl, show (ByteArray.mk #[101, 40, 107]).size = 3 from rfl, show (ByteArray.mk #[115, 40, 107]).size = 3 from rfl]); omega) v
    go_wp2
    go_ret
    exact ⟨⟨.inl (2, n)⟩, TD.leaf (by omega) HN.out, by rw [Tr.txt, ← HDD.out]; rfl, HD3.out.1, HD3.out.2⟩
  · skip
    have ad : ∀ v : World, (Op.stringOp .add (⟨#[118]⟩) (D)).run Tryd.prog v = .ok (.string ((⟨#[118]⟩) ++ (D))) v := fun v => add_ok (by (try simp only [ByteArray.size_append]); (try simp only [show (ByteArray.mk #[97]).size = 1 from rfl, show (ByteArray.mk #[107]).size = 1 from rfl, show (ByteArray.mk #[118]).size = 1 from rfl, show (ByteArray.mk #[44]).size = 1 from rfl, show (ByteArray.mk #[41]).size = 1 from rfl, show (ByteArray.mk #[104, 40]).size = 2 from rfl, show (ByteArray.mk #[112, 40]).size = 2 from rfl, show (ByteArray.mk #[101, 40, 107]).size = 3 from rfl, show (ByteArray.mk #[115, 40, 107]).size = 3 from rfl]); omega) v
    go_wp2
    go_ret
    exact ⟨⟨.inl (3, n)⟩, TD.leaf (by omega) HN.out, by rw [Tr.txt, ← HDD.out]; rfl, HD3.out.1, HD3.out.2⟩
  · skip
    go_wp2_with fail
    refine (HIH.out w3 HD3.out.1).mono ?_
    rintro e w4 ⟨t4, hT4, rfl, hD4, hM4⟩
    have HD4 : Hid (Draw W a len cap R w4 ∧ Mut R w w4) := ⟨hD4, HD3.out.2.trans hM4⟩
    have HT4 : Hid (TD f t4) := hT4
    obtain ⟨X4, hX4⟩ : ∃ X, X = t4.txt := ⟨_, rfl⟩
    have hXs4 : X4.size ≤ 32000 := by rw [hX4]; exact hT4.small (by have := HF.out; omega)
    have HX4 : Hid (X4 = t4.txt) := hX4
    rw [← hX4]
    clear hX4 hT4 hD4 hM4
    have ad1 : ∀ v : World, (Op.stringOp .add (⟨#[104, 40]⟩) (X4)).run Tryd.prog v = .ok (.string ((⟨#[104, 40]⟩) ++ (X4))) v := fun v => add_ok (by (try simp only [ByteArray.size_append]); (try simp only [show (ByteArray.mk #[97]).size = 1 from rfl, show (ByteArray.mk #[107]).size = 1 from rfl, show (ByteArray.mk #[118]).size = 1 from rfl, show (ByteArray.mk #[44]).size = 1 from rfl, show (ByteArray.mk #[41]).size = 1 from rfl, show (ByteArray.mk #[104, 40]).size = 2 from rfl, show (ByteArray.mk #[112, 40]).size = 2 from rfl, show (ByteArray.mk #[101, 40, 107]).size = 3 from rfl, show (ByteArray.mk #[115, 40, 107]).size = 3 from rfl]); omega) v
    have ad2 : ∀ v : World, (Op.stringOp .add (⟨#[104, 40]⟩ ++ X4) (⟨#[41]⟩)).run Tryd.prog v = .ok (.string ((⟨#[104, 40]⟩ ++ X4) ++ (⟨#[41]⟩))) v := fun v => add_ok (by (try simp only [ByteArray.size_append]); (try simp only [show (ByteArray.mk #[97]).size = 1 from rfl, show (ByteArray.mk #[107]).size = 1 from rfl, show (ByteArray.mk #[118]).size = 1 from rfl, show (ByteArray.mk #[44]).size = 1 from rfl, show (ByteArray.mk #[41]).size = 1 from rfl, show (ByteArray.mk #[104, 40]).size = 2 from rfl, show (ByteArray.mk #[112, 40]).size = 2 from rfl, show (ByteArray.mk #[101, 40, 107]).size = 3 from rfl, show (ByteArray.mk #[115, 40, 107]).size = 3 from rfl]); omega) v
    go_wp2
    go_ret
    exact ⟨⟨.inr (.inl t4)⟩, HT4.out.hash, by rw [Tr.txt, ← HX4.out]; rfl, HD4.out.1, HD4.out.2⟩
  · skip
    go_wp2_with fail
    refine (HIH.out w3 HD3.out.1).mono ?_
    rintro e w4 ⟨t4, hT4, rfl, hD4, hM4⟩
    have HD4 : Hid (Draw W a len cap R w4 ∧ Mut R w w4) := ⟨hD4, HD3.out.2.trans hM4⟩
    have HT4 : Hid (TD f t4) := hT4
    obtain ⟨X4, hX4⟩ : ∃ X, X = t4.txt := ⟨_, rfl⟩
    have hXs4 : X4.size ≤ 32000 := by rw [hX4]; exact hT4.small (by have := HF.out; omega)
    have HX4 : Hid (X4 = t4.txt) := hX4
    rw [← hX4]
    clear hX4 hT4 hD4 hM4
    have ad1 : ∀ v : World, (Op.stringOp .add (⟨#[112, 40]⟩) (X4)).run Tryd.prog v = .ok (.string ((⟨#[112, 40]⟩) ++ (X4))) v := fun v => add_ok (by (try simp only [ByteArray.size_append]); (try simp only [show (ByteArray.mk #[97]).size = 1 from rfl, show (ByteArray.mk #[107]).size = 1 from rfl, show (ByteArray.mk #[118]).size = 1 from rfl, show (ByteArray.mk #[44]).size = 1 from rfl, show (ByteArray.mk #[41]).size = 1 from rfl, show (ByteArray.mk #[104, 40]).size = 2 from rfl, show (ByteArray.mk #[112, 40]).size = 2 from rfl, show (ByteArray.mk #[101, 40, 107]).size = 3 from rfl, show (ByteArray.mk #[115, 40, 107]).size = 3 from rfl]); omega) v
    have ad2 : ∀ v : World, (Op.stringOp .add (⟨#[112, 40]⟩ ++ X4) (⟨#[44]⟩)).run Tryd.prog v = .ok (.string ((⟨#[112, 40]⟩ ++ X4) ++ (⟨#[44]⟩))) v := fun v => add_ok (by (try simp only [ByteArray.size_append]); (try simp only [show (ByteArray.mk #[97]).size = 1 from rfl, show (ByteArray.mk #[107]).size = 1 from rfl, show (ByteArray.mk #[118]).size = 1 from rfl, show (ByteArray.mk #[44]).size = 1 from rfl, show (ByteArray.mk #[41]).size = 1 from rfl, show (ByteArray.mk #[104, 40]).size = 2 from rfl, show (ByteArray.mk #[112, 40]).size = 2 from rfl, show (ByteArray.mk #[101, 40, 107]).size = 3 from rfl, show (ByteArray.mk #[115, 40, 107]).size = 3 from rfl]); omega) v
    go_wp2_with fail
    refine (HIH.out w4 HD4.out.1).mono ?_
    rintro e w5 ⟨t5, hT5, rfl, hD5, hM5⟩
    have HD5 : Hid (Draw W a len cap R w5 ∧ Mut R w w5) := ⟨hD5, HD4.out.2.trans hM5⟩
    have HT5 : Hid (TD f t5) := hT5
    obtain ⟨X5, hX5⟩ : ∃ X, X = t5.txt := ⟨_, rfl⟩
    have hXs5 : X5.size ≤ 32000 := by rw [hX5]; exact hT5.small (by have := HF.out; omega)
    have HX5 : Hid (X5 = t5.txt) := hX5
    rw [← hX5]
    clear hX5 hT5 hD5 hM5
    have ad3 : ∀ v : World, (Op.stringOp .add ((⟨#[112, 40]⟩ ++ X4) ++ ⟨#[44]⟩) (X5)).run Tryd.prog v = .ok (.string (((⟨#[112, 40]⟩ ++ X4) ++ ⟨#[44]⟩) ++ (X5))) v := fun v => add_ok (by (try simp only [ByteArray.size_append]); (try simp only [show (ByteArray.mk #[97]).size = 1 from rfl, show (ByteArray.mk #[107]).size = 1 from rfl, show (ByteArray.mk #[118]).size = 1 from rfl, show (ByteArray.mk #[44]).size = 1 from rfl, show (ByteArray.mk #[41]).size = 1 from rfl, show (ByteArray.mk #[104, 40]).size = 2 from rfl, show (ByteArray.mk #[112, 40]).size = 2 from rfl, show (ByteArray.mk #[101, 40, 107]).size = 3 from rfl, show (ByteArray.mk #[115, 40, 107]).size = 3 from rfl]); omega) v
    have ad4 : ∀ v : World, (Op.stringOp .add (((⟨#[112, 40]⟩ ++ X4) ++ ⟨#[44]⟩) ++ X5) (⟨#[41]⟩)).run Tryd.prog v = .ok (.string ((((⟨#[112, 40]⟩ ++ X4) ++ ⟨#[44]⟩) ++ X5) ++ (⟨#[41]⟩))) v := fun v => add_ok (by (try simp only [ByteArray.size_append]); (try simp only [show (ByteArray.mk #[97]).size = 1 from rfl, show (ByteArray.mk #[107]).size = 1 from rfl, show (ByteArray.mk #[118]).size = 1 from rfl, show (ByteArray.mk #[44]).size = 1 from rfl, show (ByteArray.mk #[41]).size = 1 from rfl, show (ByteArray.mk #[104, 40]).size = 2 from rfl, show (ByteArray.mk #[112, 40]).size = 2 from rfl, show (ByteArray.mk #[101, 40, 107]).size = 3 from rfl, show (ByteArray.mk #[115, 40, 107]).size = 3 from rfl]); omega) v
    go_wp2
    go_ret
    exact ⟨⟨.inr (.inr (.inl (t4, t5)))⟩, HT4.out.pair HT5.out, by rw [Tr.txt, ← HX4.out, ← HX5.out]; rfl, HD5.out.1, HD5.out.2⟩
  · skip
    go_wp2_with fail
    refine (HIH.out w3 HD3.out.1).mono ?_
    rintro e w4 ⟨t4, hT4, rfl, hD4, hM4⟩
    have HD4 : Hid (Draw W a len cap R w4 ∧ Mut R w w4) := ⟨hD4, HD3.out.2.trans hM4⟩
    have HT4 : Hid (TD f t4) := hT4
    obtain ⟨X4, hX4⟩ : ∃ X, X = t4.txt := ⟨_, rfl⟩
    have hXs4 : X4.size ≤ 32000 := by rw [hX4]; exact hT4.small (by have := HF.out; omega)
    have HX4 : Hid (X4 = t4.txt) := hX4
    rw [← hX4]
    clear hX4 hT4 hD4 hM4
    have ad1 : ∀ v : World, (Op.stringOp .add (⟨#[112, 40]⟩) (X4)).run Tryd.prog v = .ok (.string ((⟨#[112, 40]⟩) ++ (X4))) v := fun v => add_ok (by (try simp only [ByteArray.size_append]); (try simp only [show (ByteArray.mk #[97]).size = 1 from rfl, show (ByteArray.mk #[107]).size = 1 from rfl, show (ByteArray.mk #[118]).size = 1 from rfl, show (ByteArray.mk #[44]).size = 1 from rfl, show (ByteArray.mk #[41]).size = 1 from rfl, show (ByteArray.mk #[104, 40]).size = 2 from rfl, show (ByteArray.mk #[112, 40]).size = 2 from rfl, show (ByteArray.mk #[101, 40, 107]).size = 3 from rfl, show (ByteArray.mk #[115, 40, 107]).size = 3 from rfl]); omega) v
    have ad2 : ∀ v : World, (Op.stringOp .add (⟨#[112, 40]⟩ ++ X4) (⟨#[44]⟩)).run Tryd.prog v = .ok (.string ((⟨#[112, 40]⟩ ++ X4) ++ (⟨#[44]⟩))) v := fun v => add_ok (by (try simp only [ByteArray.size_append]); (try simp only [show (ByteArray.mk #[97]).size = 1 from rfl, show (ByteArray.mk #[107]).size = 1 from rfl, show (ByteArray.mk #[118]).size = 1 from rfl, show (ByteArray.mk #[44]).size = 1 from rfl, show (ByteArray.mk #[41]).size = 1 from rfl, show (ByteArray.mk #[104, 40]).size = 2 from rfl, show (ByteArray.mk #[112, 40]).size = 2 from rfl, show (ByteArray.mk #[101, 40, 107]).size = 3 from rfl, show (ByteArray.mk #[115, 40, 107]).size = 3 from rfl]); omega) v
    go_wp2_with fail
    refine (HIH.out w4 HD4.out.1).mono ?_
    rintro e w5 ⟨t5, hT5, rfl, hD5, hM5⟩
    have HD5 : Hid (Draw W a len cap R w5 ∧ Mut R w w5) := ⟨hD5, HD4.out.2.trans hM5⟩
    have HT5 : Hid (TD f t5) := hT5
    obtain ⟨X5, hX5⟩ : ∃ X, X = t5.txt := ⟨_, rfl⟩
    have hXs5 : X5.size ≤ 32000 := by rw [hX5]; exact hT5.small (by have := HF.out; omega)
    have HX5 : Hid (X5 = t5.txt) := hX5
    rw [← hX5]
    clear hX5 hT5 hD5 hM5
    have ad3 : ∀ v : World, (Op.stringOp .add ((⟨#[112, 40]⟩ ++ X4) ++ ⟨#[44]⟩) (X5)).run Tryd.prog v = .ok (.string (((⟨#[112, 40]⟩ ++ X4) ++ ⟨#[44]⟩) ++ (X5))) v := fun v => add_ok (by (try simp only [ByteArray.size_append]); (try simp only [show (ByteArray.mk #[97]).size = 1 from rfl, show (ByteArray.mk #[107]).size = 1 from rfl, show (ByteArray.mk #[118]).size = 1 from rfl, show (ByteArray.mk #[44]).size = 1 from rfl, show (ByteArray.mk #[41]).size = 1 from rfl, show (ByteArray.mk #[104, 40]).size = 2 from rfl, show (ByteArray.mk #[112, 40]).size = 2 from rfl, show (ByteArray.mk #[101, 40, 107]).size = 3 from rfl, show (ByteArray.mk #[115, 40, 107]).size = 3 from rfl]); omega) v
    have ad4 : ∀ v : World, (Op.stringOp .add (((⟨#[112, 40]⟩ ++ X4) ++ ⟨#[44]⟩) ++ X5) (⟨#[41]⟩)).run Tryd.prog v = .ok (.string ((((⟨#[112, 40]⟩ ++ X4) ++ ⟨#[44]⟩) ++ X5) ++ (⟨#[41]⟩))) v := fun v => add_ok (by (try simp only [ByteArray.size_append]); (try simp only [show (ByteArray.mk #[97]).size = 1 from rfl, show (ByteArray.mk #[107]).size = 1 from rfl, show (ByteArray.mk #[118]).size = 1 from rfl, show (ByteArray.mk #[44]).size = 1 from rfl, show (ByteArray.mk #[41]).size = 1 from rfl, show (ByteArray.mk #[104, 40]).size = 2 from rfl, show (ByteArray.mk #[112, 40]).size = 2 from rfl, show (ByteArray.mk #[101, 40, 107]).size = 3 from rfl, show (ByteArray.mk #[115, 40, 107]).size = 3 from rfl]); omega) v
    go_wp2
    go_ret
    exact ⟨⟨.inr (.inr (.inl (t4, t5)))⟩, HT4.out.pair HT5.out, by rw [Tr.txt, ← HX4.out, ← HX5.out]; rfl, HD5.out.1, HD5.out.2⟩
  · skip
    have ad1 : ∀ v : World, (Op.stringOp .add (⟨#[115, 40, 107]⟩) (D)).run Tryd.prog v = .ok (.string ((⟨#[115, 40, 107]⟩) ++ (D))) v := fun v => add_ok (by (try simp only [ByteArray.size_append]); (try simp only [show (ByteArray.mk #[97]).size = 1 from rfl, show (ByteArray.mk #[107]).size = 1 from rfl, show (ByteArray.mk #[118]).size = 1 from rfl, show (ByteArray.mk #[44]).size = 1 from rfl, show (ByteArray.mk #[41]).size = 1 from rfl, show (ByteArray.mk #[104, 40]).size = 2 from rfl, show (ByteArray.mk #[112, 40]).size = 2 from rfl, show (ByteArray.mk #[101, 40, 107]).size = 3 from rfl, show (ByteArray.mk #[115, 40, 107]).size = 3 from rfl]); omega) v
    have ad2 : ∀ v : World, (Op.stringOp .add (⟨#[115, 40, 107]⟩ ++ D) (⟨#[44]⟩)).run Tryd.prog v = .ok (.string ((⟨#[115, 40, 107]⟩ ++ D) ++ (⟨#[44]⟩))) v := fun v => add_ok (by (try simp only [ByteArray.size_append]); (try simp only [show (ByteArray.mk #[97]).size = 1 from rfl, show (ByteArray.mk #[107]).size = 1 from rfl, show (ByteArray.mk #[118]).size = 1 from rfl, show (ByteArray.mk #[44]).size = 1 from rfl, show (ByteArray.mk #[41]).size = 1 from rfl, show (ByteArray.mk #[104, 40]).size = 2 from rfl, show (ByteArray.mk #[112, 40]).size = 2 from rfl, show (ByteArray.mk #[101, 40, 107]).size = 3 from rfl, show (ByteArray.mk #[115, 40, 107]).size = 3 from rfl]); omega) v
    go_wp2_with fail
    refine (HIH.out w3 HD3.out.1).mono ?_
    rintro e w4 ⟨t4, hT4, rfl, hD4, hM4⟩
    have HD4 : Hid (Draw W a len cap R w4 ∧ Mut R w w4) := ⟨hD4, HD3.out.2.trans hM4⟩
    have HT4 : Hid (TD f t4) := hT4
    obtain ⟨X4, hX4⟩ : ∃ X, X = t4.txt := ⟨_, rfl⟩
    have hXs4 : X4.size ≤ 32000 := by rw [hX4]; exact hT4.small (by have := HF.out; omega)
    have HX4 : Hid (X4 = t4.txt) := hX4
    rw [← hX4]
    clear hX4 hT4 hD4 hM4
    have ad3 : ∀ v : World, (Op.stringOp .add ((⟨#[115, 40, 107]⟩ ++ D) ++ ⟨#[44]⟩) (X4)).run Tryd.prog v = .ok (.string (((⟨#[115, 40, 107]⟩ ++ D) ++ ⟨#[44]⟩) ++ (X4))) v := fun v => add_ok (by (try simp only [ByteArray.size_append]); (try simp only [show (ByteArray.mk #[97]).size = 1 from rfl, show (ByteArray.mk #[107]).size = 1 from rfl, show (ByteArray.mk #[118]).size = 1 from rfl, show (ByteArray.mk #[44]).size = 1 from rfl, show (ByteArray.mk #[41]).size = 1 from rfl, show (ByteArray.mk #[104, 40]).size = 2 from rfl, show (ByteArray.mk #[112, 40]).size = 2 from rfl, show (ByteArray.mk #[101, 40, 107]).size = 3 from rfl, show (ByteArray.mk #[115, 40, 107]).size = 3 from rfl]); omega) v
    have ad4 : ∀ v : World, (Op.stringOp .add (((⟨#[115, 40, 107]⟩ ++ D) ++ ⟨#[44]⟩) ++ X4) (⟨#[41]⟩)).run Tryd.prog v = .ok (.string ((((⟨#[115, 40, 107]⟩ ++ D) ++ ⟨#[44]⟩) ++ X4) ++ (⟨#[41]⟩))) v := fun v => add_ok (by (try simp only [ByteArray.size_append]); (try simp only [show (ByteArray.mk #[97]).size = 1 from rfl, show (ByteArray.mk #[107]).size = 1 from rfl, show (ByteArray.mk #[118]).size = 1 from rfl, show (ByteArray.mk #[44]).size = 1 from rfl, show (ByteArray.mk #[41]).size = 1 from rfl, show (ByteArray.mk #[104, 40]).size = 2 from rfl, show (ByteArray.mk #[112, 40]).size = 2 from rfl, show (ByteArray.mk #[101, 40, 107]).size = 3 from rfl, show (ByteArray.mk #[115, 40, 107]).size = 3 from rfl]); omega) v
    go_wp2
    go_ret
    exact ⟨⟨.inr (.inr (.inr (7, n, t4)))⟩, HT4.out.keyed (by omega) HN.out, by rw [Tr.txt, ← HX4.out, ← HDD.out]; rfl, HD4.out.1, HD4.out.2⟩
  · skip
    have ad1 : ∀ v : World, (Op.stringOp .add (⟨#[101, 40, 107]⟩) (D)).run Tryd.prog v = .ok (.string ((⟨#[101, 40, 107]⟩) ++ (D))) v := fun v => add_ok (by (try simp only [ByteArray.size_append]); (try simp only [show (ByteArray.mk #[97]).size = 1 from rfl, show (ByteArray.mk #[107]).size = 1 from rfl, show (ByteArray.mk #[118]).size = 1 from rfl, show (ByteArray.mk #[44]).size = 1 from rfl, show (ByteArray.mk #[41]).size = 1 from rfl, show (ByteArray.mk #[104, 40]).size = 2 from rfl, show (ByteArray.mk #[112, 40]).size = 2 from rfl, show (ByteArray.mk #[101, 40, 107]).size = 3 from rfl, show (ByteArray.mk #[115, 40, 107]).size = 3 from rfl]); omega) v
    have ad2 : ∀ v : World, (Op.stringOp .add (⟨#[101, 40, 107]⟩ ++ D) (⟨#[44]⟩)).run Tryd.prog v = .ok (.string ((⟨#[101, 40, 107]⟩ ++ D) ++ (⟨#[44]⟩))) v := fun v => add_ok (by (try simp only [ByteArray.size_append]); (try simp only [show (ByteArray.mk #[97]).size = 1 from rfl, show (ByteArray.mk #[107]).size = 1 from rfl, show (ByteArray.mk #[118]).size = 1 from rfl, show (ByteArray.mk #[44]).size = 1 from rfl, show (ByteArray.mk #[41]).size = 1 from rfl, show (ByteArray.mk #[104, 40]).size = 2 from rfl, show (ByteArray.mk #[112, 40]).size = 2 from rfl, show (ByteArray.mk #[101, 40, 107]).size = 3 from rfl, show (ByteArray.mk #[115, 40, 107]).size = 3 from rfl]); omega) v
    go_wp2_with fail
    refine (HIH.out w3 HD3.out.1).mono ?_
    rintro e w4 ⟨t4, hT4, rfl, hD4, hM4⟩
    have HD4 : Hid (Draw W a len cap R w4 ∧ Mut R w w4) := ⟨hD4, HD3.out.2.trans hM4⟩
    have HT4 : Hid (TD f t4) := hT4
    obtain ⟨X4, hX4⟩ : ∃ X, X = t4.txt := ⟨_, rfl⟩
    have hXs4 : X4.size ≤ 32000 := by rw [hX4]; exact hT4.small (by have := HF.out; omega)
    have HX4 : Hid (X4 = t4.txt) := hX4
    rw [← hX4]
    clear hX4 hT4 hD4 hM4
    have ad3 : ∀ v : World, (Op.stringOp .add ((⟨#[101, 40, 107]⟩ ++ D) ++ ⟨#[44]⟩) (X4)).run Tryd.prog v = .ok (.string (((⟨#[101, 40, 107]⟩ ++ D) ++ ⟨#[44]⟩) ++ (X4))) v := fun v => add_ok (by (try simp only [ByteArray.size_append]); (try simp only [show (ByteArray.mk #[97]).size = 1 from rfl, show (ByteArray.mk #[107]).size = 1 from rfl, show (ByteArray.mk #[118]).size = 1 from rfl, show (ByteArray.mk #[44]).size = 1 from rfl, show (ByteArray.mk #[41]).size = 1 from rfl, show (ByteArray.mk #[104, 40]).size = 2 from rfl, show (ByteArray.mk #[112, 40]).size = 2 from rfl, show (ByteArray.mk #[101, 40, 107]).size = 3 from rfl, show (ByteArray.mk #[115, 40, 107]).size = 3 from rfl]); omega) v
    have ad4 : ∀ v : World, (Op.stringOp .add (((⟨#[101, 40, 107]⟩ ++ D) ++ ⟨#[44]⟩) ++ X4) (⟨#[41]⟩)).run Tryd.prog v = .ok (.string ((((⟨#[101, 40, 107]⟩ ++ D) ++ ⟨#[44]⟩) ++ X4) ++ (⟨#[41]⟩))) v := fun v => add_ok (by (try simp only [ByteArray.size_append]); (try simp only [show (ByteArray.mk #[97]).size = 1 from rfl, show (ByteArray.mk #[107]).size = 1 from rfl, show (ByteArray.mk #[118]).size = 1 from rfl, show (ByteArray.mk #[44]).size = 1 from rfl, show (ByteArray.mk #[41]).size = 1 from rfl, show (ByteArray.mk #[104, 40]).size = 2 from rfl, show (ByteArray.mk #[112, 40]).size = 2 from rfl, show (ByteArray.mk #[101, 40, 107]).size = 3 from rfl, show (ByteArray.mk #[115, 40, 107]).size = 3 from rfl]); omega) v
    go_wp2
    go_ret
    exact ⟨⟨.inr (.inr (.inr (6, n, t4)))⟩, HT4.out.keyed (by omega) HN.out, by rw [Tr.txt, ← HX4.out, ← HDD.out]; rfl, HD4.out.1, HD4.out.2⟩
  · skip
    have ad1 : ∀ v : World, (Op.stringOp .add (⟨#[101, 40, 107]⟩) (D)).run Tryd.prog v = .ok (.string ((⟨#[101, 40, 107]⟩) ++ (D))) v := fun v => add_ok (by (try simp only [ByteArray.size_append]); (try simp only [show (ByteArray.mk #[97]).size = 1 from rfl, show (ByteArray.mk #[107]).size = 1 from rfl, show (ByteArray.mk #[118]).size = 1 from rfl, show (ByteArray.mk #[44]).size = 1 from rfl, show (ByteArray.mk #[41]).size = 1 from rfl, show (ByteArray.mk #[104, 40]).size = 2 from rfl, show (ByteArray.mk #[112, 40]).size = 2 from rfl, show (ByteArray.mk #[101, 40, 107]).size = 3 from rfl, show (ByteArray.mk #[115, 40, 107]).size = 3 from rfl]); omega) v
    have ad2 : ∀ v : World, (Op.stringOp .add (⟨#[101, 40, 107]⟩ ++ D) (⟨#[44]⟩)).run Tryd.prog v = .ok (.string ((⟨#[101, 40, 107]⟩ ++ D) ++ (⟨#[44]⟩))) v := fun v => add_ok (by (try simp only [ByteArray.size_append]); (try simp only [show (ByteArray.mk #[97]).size = 1 from rfl, show (ByteArray.mk #[107]).size = 1 from rfl, show (ByteArray.mk #[118]).size = 1 from rfl, show (ByteArray.mk #[44]).size = 1 from rfl, show (ByteArray.mk #[41]).size = 1 from rfl, show (ByteArray.mk #[104, 40]).size = 2 from rfl, show (ByteArray.mk #[112, 40]).size = 2 from rfl, show (ByteArray.mk #[101, 40, 107]).size = 3 from rfl, show (ByteArray.mk #[115, 40, 107]).size = 3 from rfl]); omega) v
    go_wp2_with fail
    refine (HIH.out w3 HD3.out.1).mono ?_
    rintro e w4 ⟨t4, hT4, rfl, hD4, hM4⟩
    have HD4 : Hid (Draw W a len cap R w4 ∧ Mut R w w4) := ⟨hD4, HD3.out.2.trans hM4⟩
    have HT4 : Hid (TD f t4) := hT4
    obtain ⟨X4, hX4⟩ : ∃ X, X = t4.txt := ⟨_, rfl⟩
    have hXs4 : X4.size ≤ 32000 := by rw [hX4]; exact hT4.small (by have := HF.out; omega)
    have HX4 : Hid (X4 = t4.txt) := hX4
    rw [← hX4]
    clear hX4 hT4 hD4 hM4
    have ad3 : ∀ v : World, (Op.stringOp .add ((⟨#[101, 40, 107]⟩ ++ D) ++ ⟨#[44]⟩) (X4)).run Tryd.prog v = .ok (.string (((⟨#[101, 40, 107]⟩ ++ D) ++ ⟨#[44]⟩) ++ (X4))) v := fun v => add_ok (by (try simp only [ByteArray.size_append]); (try simp only [show (ByteArray.mk #[97]).size = 1 from rfl, show (ByteArray.mk #[107]).size = 1 from rfl, show (ByteArray.mk #[118]).size = 1 from rfl, show (ByteArray.mk #[44]).size = 1 from rfl, show (ByteArray.mk #[41]).size = 1 from rfl, show (ByteArray.mk #[104, 40]).size = 2 from rfl, show (ByteArray.mk #[112, 40]).size = 2 from rfl, show (ByteArray.mk #[101, 40, 107]).size = 3 from rfl, show (ByteArray.mk #[115, 40, 107]).size = 3 from rfl]); omega) v
    have ad4 : ∀ v : World, (Op.stringOp .add (((⟨#[101, 40, 107]⟩ ++ D) ++ ⟨#[44]⟩) ++ X4) (⟨#[41]⟩)).run Tryd.prog v = .ok (.string ((((⟨#[101, 40, 107]⟩ ++ D) ++ ⟨#[44]⟩) ++ X4) ++ (⟨#[41]⟩))) v := fun v => add_ok (by (try simp only [ByteArray.size_append]); (try simp only [show (ByteArray.mk #[97]).size = 1 from rfl, show (ByteArray.mk #[107]).size = 1 from rfl, show (ByteArray.mk #[118]).size = 1 from rfl, show (ByteArray.mk #[44]).size = 1 from rfl, show (ByteArray.mk #[41]).size = 1 from rfl, show (ByteArray.mk #[104, 40]).size = 2 from rfl, show (ByteArray.mk #[112, 40]).size = 2 from rfl, show (ByteArray.mk #[101, 40, 107]).size = 3 from rfl, show (ByteArray.mk #[115, 40, 107]).size = 3 from rfl]); omega) v
    go_wp2
    go_ret
    exact ⟨⟨.inr (.inr (.inr (6, n, t4)))⟩, HT4.out.keyed (by omega) HN.out, by rw [Tr.txt, ← HX4.out, ← HDD.out]; rfl, HD4.out.1, HD4.out.2⟩

/-- r.term -/
theorem drTerm_any (hU : IsU8 W a len cap Z) : ∀ (f : Nat), f ≤ 4 → ∀ (w : World), Draw W a len cap R w → Calls Tryd.prog 60 #[.pointer (some ⟨R, 0, none⟩), .int .i64 (f : Int)] w fun e w' => ∃ t : Tr, TD f t ∧ e = .returned (.string t.txt) ∧ Draw W a len cap R w' ∧ Mut R w w'
  | 0, _, w, h => drZero hU w h
  | f + 1, hf, w, h => drSucc hU f (by omega) (fun w h => drTerm_any hU f (by omega) w h) w h
end
end Go.Proofs.YtpcbhjejpebogaaDoor

namespace Go.Proofs.YtpcbhjejpebogaaDoor
open Go.RowKit Go.Maps
set_option linter.unusedVariables false

/-- texts of drawn terms -/
def KLow (L : List (List UInt8)) : Prop := ∀ x, x ∈ L → ∃ t : Tr, TD 3 t ∧ t.txt.toList = x
theorem LL_atL (L : List (List UInt8)) : LL (atL L) L.length = L := by
  apply List.ext_getElem
  · rw [LL_len]
  · intro i h1 h2
    rw [LL_len] at h1
    have e := LL_at (atL L) h1
    rw [atL_list] at e
    simp only [List.getD, List.getElem?_eq_getElem h2, Option.getD_some] at e
    rw [List.getElem?_eq_getElem (by rw [LL_len]; exact h1), Option.getD_some] at e
    exact e
theorem KLow.sizes {L : List (List UInt8)} (h : KLow L) : ∀ i, i < L.length → (atL L i).size ≤ 1048576 := by
  intro i hi
  have hm : L.getD i [] ∈ L := by
    simp only [List.getD, List.getElem?_eq_getElem hi, Option.getD_some]
    exact List.getElem_mem hi
  obtain ⟨t, ht, e⟩ := h _ hm
  have h1 := ht.small (by omega)
  rw [← atL_list, ByteArray.toList_eq, ByteArray.toList_eq] at e
  have h2 : t.txt = atL L i := ByteArray.ext (Array.ext' e)
  rw [← h2]
  omega
theorem KLow.put {L : List (List UInt8)} {t : Tr} (h : KLow L) (ht : TD 3 t) : KLow (putL L t.txt.toList) := fun x hx => by
  rcases (putL_mem _ _ _).1 hx with h1 | rfl
  · exact h x h1
  · exact ⟨t, ht, rfl⟩
theorem putL_nonempty (s : List UInt8) (L : List (List UInt8)) : putL L s ≠ [] := fun e => by
  have h : s ∈ putL L s := (putL_mem _ _ _).2 (.inr rfl)
  rw [e] at h
  cases h
theorem OwnS.mut {w w' : World} {base g c R : Nat} {L : List (List UInt8)} (h : OwnS w base g c L) (hM : Mut R w w') (hR : R < base) : OwnS w' base g c L :=
  OwnL.kept (p := fun k => k ≠ R) (v := .slice (some ⟨g, 0, none⟩) L.length c) h ⟨hM.os, hM.tape, hM.output, hM.size, hM.block⟩ (fun b hb => by omega)
theorem Draw.grown {W : World} {a : Option Addr} {len cap R : Nat} {w w' : World} {row : Option Nat} (h : Draw W a len cap R w) (hg : w.grownBy w' row) (hr : ∀ k, row = some k → R < k) : Draw W a len cap R w' := by
  obtain ⟨p, hp, hb⟩ := h.box
  have hN := h.new
  exact ⟨h.bel.grown hg h.bel.size (fun k hk => by have := hr k hk; omega), h.new, p, hp, (hg.block R (lt_of_block hb) (fun e => by have := hr R e.symm; omega)).trans hb⟩
theorem a1_txt : (⟨.inl (1, 1)⟩ : Tr).txt = ⟨#[97, 49]⟩ := by
  rw [Tr.txt]
  decide +kernel

section
variable {W : World} {a : Option Addr} {len cap R : Nat} {Z : Nat → Int}
set_option maxRecDepth 8000 in
set_option maxHeartbeats 8000000 in
theorem drKnown_any (hU : IsU8 W a len cap Z) (w : World) (h : Draw W a len cap R w) :
    Calls Tryd.prog 57 #[.pointer (some ⟨R, 0, none⟩), .int .i64 7] w fun e w' => ∃ g c L, e = .returned (.slice (some ⟨g, 0, none⟩) L.length c) ∧ OwnS w' (R + 1) g c L ∧ L.length ≤ 8 ∧ KLow L ∧ Draw W a len cap R w' := by
  obtain ⟨i0, hi, hz0, hz1, hz2⟩ := info_parts info9
  have hRw : R < w.heap.size := h.lt
  have hD1 : Draw W a len cap R (w.alloc (.cells #[] 9)) := h.alloc _
  have HG1 : Hid ((w.alloc (.cells #[] 9)).heap[w.heap.size]? = some (.cells #[] 9 (0, 0))) := heap_alloc_new w _
  have HTM : Hid (∀ (v : World), Draw W a len cap R v → Calls Tryd.prog 60 #[.pointer (some ⟨R, 0, none⟩), .int .i64 3] v fun e w' => ∃ t : Tr, TD 3 t ∧ e = .returned (.string t.txt) ∧ Draw W a len cap R w' ∧ Mut R v w') := fun v hv => drTerm_any hU 3 (by omega) v hv
  have HRW : Hid (R < w.heap.size) := hRw
  clear h hRw
  go_enter Tryd.func57, Tryd.ntmps57
  go_wp2_with fail
  refine (below_any hU 8 (by omega) (by omega) _ hD1).mono ?_
  rintro e w1 ⟨x, hx0, hx1, rfl, hD2, hM2⟩
  have HO1 : Hid (OwnS w1 (R + 1) w.heap.size 0 []) := by
    show OwnS _ _ _ _ _
    refine ⟨rfl, .inr ⟨w.heap.size, 0, #[], rfl, by have := HRW.out; omega, ?_, Nat.le_refl _, Nat.zero_le _, rfl, rfl⟩⟩
    exact (hM2.block w.heap.size (by simp) (by have := HRW.out; omega)).trans HG1.out
  obtain ⟨n, rfl⟩ : ∃ n : Nat, x = (n : Int) := ⟨x.toNat, by omega⟩
  have hn : n ≤ 7 := by omega
  have HD2 : Hid (Draw W a len cap R w1) := hD2
  clear hD1 hD2 hM2 hx0 hx1
  go_wp2
  go_loopw [5, 6] (fun v i wr => ∃ (k g c : Nat) (L : List (List UInt8)), k ≤ 7 ∧ i = .int .i64 k ∧ v = .slice (some ⟨g, 0, none⟩) L.length c ∧ Hid (OwnS wr (R + 1) g c L ∧ L.length + k ≤ 7 ∧ KLow L) ∧ Draw W a len cap R wr) (fun _ i _ => (intOf i).toNat)
  case atStart => exact ⟨n, w.heap.size, 0, [], hn, rfl, rfl, ⟨HO1.out, by simpa using hn, fun x hx => by cases hx⟩, HD2.out⟩
  case round =>
    obtain ⟨k, g, c, L, hk, rfl, rfl, HL, hD⟩ := hrel
    have HD : Hid (Draw W a len cap R wr) := hD
    clear hD
    by_cases h0 : 0 < k
    · have h0I : (0 : Int) < (k : Int) := by omega
      obtain ⟨m, hm⟩ : ∃ m, m = L.length := ⟨_, rfl⟩
      have HM : Hid (m = L.length) := hm
      rw [← hm]
      clear hm
      go_wp2_with fail
      refine (HTM.out wr HD.out).mono ?_
      rintro e w3 ⟨t, hT, rfl, hD3, hM3⟩
      have HO3 : Hid (OwnS w3 (R + 1) g c L) := HL.out.1.mut hM3 (by omega)
      have HD3 : Hid (Draw W a len cap R w3) := hD3
      have HT : Hid (TD 3 t) := hT
      obtain ⟨X, hX⟩ : ∃ X, X = t.txt := ⟨_, rfl⟩
      have HX : Hid (X = t.txt) := hX
      rw [← hX]
      have HLn : Hid (Calls Tryd.prog 32 #[.slice (some ⟨g, 0, none⟩) m c, .string X] w3 fun e w' => ∃ v, e = .returned (.tuple #[v, .bool (lrB (atL L) m X)]) ∧ OwnL w' w3.heap.size v (lrR (atL L) m X) ∧ Below w3.heap.size w3 w') := by
        rw [HM.out]
        exact specLearned_any g L.length c (atL L) X w3 HO3.out.strs HO3.out.lies.2.1 (by have := HL.out.2.1; omega) HL.out.2.2.sizes (by have := hT.small (by omega); rw [hX]; omega)
      clear hT hD3 hM3 hX
      go_wp2_with fail
      refine HLn.out.mono ?_
      rintro e w4 ⟨v, rfl, ho, hB4⟩
      have HD4 : Hid (Draw W a len cap R w4) := HD3.out.below hB4
      have HO4 : Hid (OwnS w4 (R + 1) g c L) := HO3.out.below hB4
      obtain ⟨b, hb⟩ : ∃ b, b = lrB (atL L) m X := ⟨_, rfl⟩
      rw [← hb]
      cases b with
      | false =>
        clear hb ho hB4
        go_wp2
        go_roundw
        case rel => exact ⟨k - 1, g, c, L, by omega, (by rw [show ((k - 1 : Nat) : Int) = (k : Int) - 1 by omega]), by rw [HM.out], ⟨HO4.out, by have := HL.out.2.1; omega, HL.out.2.2⟩, HD4.out⟩
        case measure => simp [intOf]; omega
      | true =>
        have hr : lrR (atL L) m X = putL L X.toList := by
          unfold lrR
          rw [if_pos hb.symm, HM.out, LL_atL]
        rw [hr] at ho
        have hR4 : R + 1 ≤ w3.heap.size := HD3.out.lt
        obtain ⟨g', c', rfl, hf⟩ := own_form (mono_base ho hR4) (L := putL L X.toList) rfl rfl (fun e => by
          have h1 := ho
          unfold OwnL at h1
          rw [e] at h1
          rcases h1.2 with ⟨_, h2⟩ | ⟨g2, c2, cur, h2, _⟩
          · exact putL_nonempty X.toList L (List.eq_nil_of_length_eq_zero h2)
          · cases h2)
        have HN : Hid (OwnS w4 (R + 1) g' c' (putL L X.toList) ∧ (putL L X.toList).length + (k - 1) ≤ 7 ∧ KLow (putL L X.toList)) := ⟨hf, by have h1 := putL_len X.toList L; have h2 := HL.out.2.1; omega, by rw [HX.out]; exact HL.out.2.2.put HT.out⟩
        clear hb hr ho hB4 hf hR4
        obtain ⟨L2, hL2⟩ : ∃ L2, L2 = putL L X.toList := ⟨_, rfl⟩
        rw [← hL2] at HN ⊢
        clear hL2
        go_wp2
        go_roundw
        case rel => exact ⟨k - 1, g', c', L2, by omega, (by rw [show ((k - 1 : Nat) : Int) = (k : Int) - 1 by omega]), rfl, HN, HD4.out⟩
        case measure => simp [intOf]; omega
    · have hk0 : k = 0 := by omega
      subst hk0
      obtain ⟨m, hm⟩ : ∃ m, m = L.length := ⟨_, rfl⟩
      have HM : Hid (m = L.length) := hm
      rw [← hm]
      have hm7 : m ≤ 7 := by have := HL.out.2.1; omega
      clear hm
      go_wp2_with fail
      refine (once_any hU 30 (by omega) (by omega) wr HD.out).mono ?_
      rintro e w3 ⟨x, rfl, hD3, hM3⟩
      have HO3 : Hid (OwnS w3 (R + 1) g c L) := HL.out.1.mut hM3 (by omega)
      have HD3 : Hid (Draw W a len cap R w3) := hD3
      clear hD3 hM3
      cases x with
      | false =>
        go_wp2
        go_ret
        exact ⟨g, c, L, by rw [HM.out]; rfl, HO3.out, by have := HL.out.2.1; omega, HL.out.2.2, HD3.out⟩
      | true =>
        have HO3' : Hid (w3.ownsRow (R + 1) 9 1 (.slice (some ⟨g, 0, none⟩) m c) m (L.map encStr)) := by
          have h1 := HO3.out
          unfold OwnS at h1
          rw [← HM.out] at h1
          exact h1
        have hc1 : (m + 1 : Nat) ≤ maxLen := by unfold maxLen; omega
        have hc2 : (m + 1) * 16 ≤ 140737488355328 := by omega
        go_wp2_with (at_builtin; refine wpList_append_own _ rfl _ _ 22 rfl (R + 1) 9 i0 (.string ⟨#[]⟩) 1 16 Tryd.underlying22 hi hz0 hz1 hz2 rfl (by decide) _ m _ rfl (HO3'.out.alloc _) ⟨w3.heap.size, 0, none⟩ 1 1 [.string ⟨#[97, 49]⟩] rfl rfl (World.news_of_block (heap_alloc_new _ _)) (fun u hu => by simp at hu; subst hu; rfl) hc1 hc2 (by have := HD3.out.lt; simp; omega) ?_; intro v4 w4 hown4 hgrow4 hnil4)
        obtain ⟨g4, gc4, rfl, hf4⟩ := own_form hown4 (L := L ++ [(⟨.inl (1, 1)⟩ : Tr).txt.toList]) (by rw [List.length_append, HM.out]; rfl) (by rw [List.map_append, List.map_cons, List.map_nil, enc_str, a1_txt]) (fun e => by have := (hnil4.1 e).1; cases this)
        have HD4 : Hid (Draw W a len cap R w4) := (HD3.out.alloc _).grown hgrow4 (fun k hk => by have := (HO3'.out.lt k hk).1; omega)
        go_ret
        exact ⟨g4, gc4, _, rfl, hf4, by rw [List.length_append, ← HM.out]; simp; omega, fun x hx => by
          rcases List.mem_append.1 hx with h1 | h1
          · exact HL.out.2.2 x h1
          · exact ⟨⟨.inl (1, 1)⟩, TD.leaf (.inl rfl) (by omega), (List.mem_singleton.1 h1).symm⟩, HD4.out⟩
end
end Go.Proofs.YtpcbhjejpebogaaDoor

namespace Go.Proofs.YtpcbhjejpebogaaDoor
open Go.RowKit Go.Maps
set_option linter.unusedVariables false

theorem bigD_any (a : Option Addr) (len cap : Nat) (w : World) : Calls Tryd.prog 26 #[.slice a len cap] w fun e w' => e = .returned (.bool (decide ((1048576 : Int) < (len : Int)))) ∧ w' = w := by
  go_enter Tryd.func26, Tryd.ntmps26
  go_wp2
  go_ret
  exact ⟨rfl, rfl⟩
theorem openD_any (a : Option Addr) (len cap : Nat) (w : World) : Calls Tryd.prog 56 #[.slice a len cap] w fun e w' => e = .returned (.pointer (some ⟨w.heap.size, 0, none⟩)) ∧ Draw w a len cap w.heap.size w' := by
  go_enter Tryd.func56, Tryd.ntmps56
  go_wp2
  go_ret
  exact ⟨rfl, (Below.refl _ _).alloc (Nat.le_refl _) _, Nat.le_refl _, 0, Nat.zero_le _, heap_alloc_new w _⟩

theorem drawOpened_any (a : Option Addr) (len cap : Nat) (Z : Nat → Int) (w : World) (hU : IsU8 w a len cap Z) :
    Calls Tryd.prog 30 #[.slice a len cap] w fun e w' => ∃ g c L, e = .returned (.slice (some ⟨g, 0, none⟩) L.length c) ∧ OwnS w' w.heap.size g c L ∧ L.length ≤ 8 ∧ KLow L ∧ Below w.heap.size w w' := by
  go_enter Tryd.func30, Tryd.ntmps30
  go_wp2_with fail
  refine (openD_any a len cap w).mono ?_
  rintro e w1 ⟨rfl, hD1⟩
  go_wp2_with fail
  refine (drKnown_any hU w1 hD1).mono ?_
  rintro e w2 ⟨g, c, L, rfl, ho, hl, hk, hD2⟩
  go_wp2
  go_ret
  exact ⟨g, c, L, rfl, mono_base ho (by omega), hl, hk, hD2.bel⟩
end Go.Proofs.YtpcbhjejpebogaaDoor
