/-
  r.term: a drawn term's text, with numbers up to 3, no deeper than it was asked. Condition: the code reads as bytes.
-/
import Derived.Test.YtpcbhjejpebogaaDoorDqD
namespace Go.Proofs.YtpcbhjejpebogaaDoor
open Go.RowKit
set_option linter.unusedVariables false
set_option linter.unusedSimpArgs false

/-- a term whose numbers are at most 3 -/
def LowT : Tr → Prop
  | ⟨.inl (k, n)⟩ => (k = 1 ∨ k = 2 ∨ k = 3) ∧ n ≤ 3
  | ⟨.inr (.inl t)⟩ => LowT t
  | ⟨.inr (.inr (.inl (t, u)))⟩ => LowT t ∧ LowT u
  | ⟨.inr (.inr (.inr (k, n, t)))⟩ => (k = 6 ∨ k = 7) ∧ n ≤ 3 ∧ LowT t
theorem LowT.ok : ∀ t : Tr, LowT t → t.Ok
  | ⟨.inl (k, n)⟩, h => by rw [LowT] at h; exact ⟨h.1, by omega⟩
  | ⟨.inr (.inl t)⟩, h => by rw [LowT] at h; exact LowT.ok t h
  | ⟨.inr (.inr (.inl (t, u)))⟩, h => by rw [LowT] at h; exact ⟨LowT.ok t h.1, LowT.ok u h.2⟩
  | ⟨.inr (.inr (.inr (k, n, t)))⟩, h => by rw [LowT] at h; exact ⟨h.1, by omega, LowT.ok t h.2.2⟩
/-- a drawn term -/
def TD (f : Nat) (t : Tr) : Prop := LowT t ∧ t.size + 1 ≤ 2 ^ (f + 1) ∧ t.deep ≤ f + 1
theorem TD.fit {f : Nat} {t : Tr} (hf : f ≤ 4) (h : TD f t) : Fit t := by
  obtain ⟨h1, h2, h3⟩ := h
  have : 2 ^ (f + 1) ≤ 2 ^ 5 := Nat.pow_le_pow_right (by decide) (by omega)
  exact ⟨h1.ok, by omega, by omega⟩
theorem TD.small {f : Nat} {t : Tr} (hf : f ≤ 4) (h : TD f t) : t.txt.size ≤ 32000 := by
  obtain ⟨h1, h2, h3⟩ := h
  have : 2 ^ (f + 1) ≤ 2 ^ 5 := Nat.pow_le_pow_right (by decide) (by omega)
  have := Tr.txt_size t h1.ok
  omega
theorem TD.leaf {f k n : Nat} (hk : k = 1 ∨ k = 2 ∨ k = 3) (hn : n ≤ 3) : TD f ⟨.inl (k, n)⟩ := by
  have : 1 ≤ 2 ^ f := Nat.one_le_two_pow
  exact ⟨by rw [LowT]; exact ⟨hk, hn⟩, by rw [Tr.size, Nat.pow_succ]; omega, by rw [Tr.deep]; omega⟩
theorem TD.hash {f : Nat} {t : Tr} (h : TD f t) : TD (f + 1) ⟨.inr (.inl t)⟩ := by
  obtain ⟨h1, h2, h3⟩ := h
  have : 1 ≤ 2 ^ (f + 1) := Nat.one_le_two_pow
  exact ⟨by rw [LowT]; exact h1, by rw [Tr.size, Nat.pow_succ]; omega, by rw [Tr.deep]; omega⟩
theorem TD.keyed {f k n : Nat} {t : Tr} (hk : k = 6 ∨ k = 7) (hn : n ≤ 3) (h : TD f t) : TD (f + 1) ⟨.inr (.inr (.inr (k, n, t)))⟩ := by
  obtain ⟨h1, h2, h3⟩ := h
  have : 1 ≤ 2 ^ (f + 1) := Nat.one_le_two_pow
  exact ⟨by rw [LowT]; exact ⟨hk, hn, h1⟩, by rw [Tr.size, Nat.pow_succ]; omega, by rw [Tr.deep]; omega⟩
theorem TD.pair {f : Nat} {t u : Tr} (h : TD f t) (k : TD f u) : TD (f + 1) ⟨.inr (.inr (.inl (t, u)))⟩ := by
  obtain ⟨h1, h2, h3⟩ := h
  obtain ⟨k1, k2, k3⟩ := k
  exact ⟨by rw [LowT]; exact ⟨h1, k1⟩, by rw [Tr.size, Nat.pow_succ]; omega, by rw [Tr.deep]; omega⟩
theorem decS {n : Nat} (h : n ≤ 3) : (decB n).size ≤ 4 := by have := decB_size n; omega
section
variable {W : World} {a : Option Addr} {len cap R : Nat} {Z : Nat → Int}

set_option maxRecDepth 8000 in
set_option maxHeartbeats 4000000 in
theorem drZero (hU : IsU8 W a len cap Z) (w : World) (h : Draw W a len cap R w) :
    Calls Tryd.prog 60 #[.pointer (some ⟨R, 0, none⟩), .int .i64 0] w fun e w' => ∃ t : Tr, TD 0 t ∧ e = .returned (.string t.txt) ∧ Draw W a len cap R w' ∧ Mut R w w' := by
  have HD : Hid (Draw W a len cap R w) := h
  clear h
  go_enter Tryd.func60, Tryd.ntmps60
  go_wp2_with fail
  refine (below_any hU 4 (by omega) (by omega) w HD.out).mono ?_
  rintro e w1 ⟨x, hx0, hx1, rfl, hD1, hM1⟩
  have HD1 : Hid (Draw W a len cap R w1 ∧ Mut R w w1) := ⟨hD1, hM1⟩
  clear hD1 hM1
  obtain ⟨n, rfl⟩ : ∃ n : Nat, x = (n : Int) := ⟨x.toNat, by omega⟩
  have hn : n ≤ 3 := by omega
  have HN : Hid (n ≤ 3) := hn
  have hwn : IntKind.i64.wrap (n : Int) = (n : Int) := by rw [IntKind.wrap_i64]; omega
  go_wp2_with fail
  refine (l1Dec_any n (by omega) w1).mono ?_
  rintro e w2 ⟨rfl, hB2⟩
  have HD2 : Hid (Draw W a len cap R w2 ∧ Mut R w w2) := ⟨HD1.out.1.below hB2, HD1.out.2.trans (Mut.of_below hB2)⟩
  clear hB2 hx0 hx1
  obtain ⟨D, hD⟩ : ∃ D, D = decB n := ⟨_, rfl⟩
  have hDs : D.size ≤ 4 := by rw [hD]; exact decS hn
  have HDD : Hid (D = decB n) := hD
  rw [← hD]
  clear hD hn hwn
  go_wp2_with fail
  refine (below_any hU 10 (by omega) (by omega) w2 HD2.out.1).mono ?_
  rintro e w3 ⟨y, hy0, hy1, rfl, hD3, hM3⟩
  have HD3 : Hid (Draw W a len cap R w3 ∧ Mut R w w3) := ⟨hD3, HD2.out.2.trans hM3⟩
  clear hD3 hM3
  go_wp2_with fail
  refine (below_any hU 4 (by omega) (by omega) w3 HD3.out.1).mono ?_
  rintro e w4 ⟨z, hz0, hz1, rfl, hD4, hM4⟩
  have HD4 : Hid (Draw W a len cap R w4 ∧ Mut R w w4) := ⟨hD4, HD3.out.2.trans hM4⟩
  clear hD4 hM4
  have hz : z = 0 ∨ z = 1 ∨ z = 2 ∨ z = 3 := by omega
  clear hz0 hz1 hy0 hy1
  rcases hz with rfl | rfl | rfl | rfl
  · skip
    have ad : ∀ v : World, (Op.stringOp .add (⟨#[97]⟩) (D)).run Tryd.prog v = .ok (.string ((⟨#[97]⟩) ++ (D))) v := fun v => add_ok (by (try simp only [ByteArray.size_append]); (try simp only [show (ByteArray.mk #[97]).size = 1 from rfl, show (ByteArray.mk #[107]).size = 1 from rfl, show (ByteArray.mk #[118]).size = 1 from rfl, show (ByteArray.mk #[44]).size = 1 from rfl, show (ByteArray.mk #[41]).size = 1 from rfl, show (ByteArray.mk #[104, 40]).size = 2 from rfl, show (ByteArray.mk #[112, 40]).size = 2 from rfl, show (ByteArray.mk #[101, 40, 107]).size = 3 from rfl, show (ByteArray.mk #[115, 40, 107]).size = 3 from rfl]); omega) v
    go_wp2
    go_ret
    exact ⟨⟨.inl (1, n)⟩, TD.leaf (by omega) HN.out, by rw [Tr.txt, ← HDD.out]; rfl, HD4.out.1, HD4.out.2⟩
  · skip
    have ad : ∀ v : World, (Op.stringOp .add (⟨#[97]⟩) (D)).run Tryd.prog v = .ok (.string ((⟨#[97]⟩) ++ (D))) v := fun v => add_ok (by (try simp only [ByteArray.size_append]); (try simp only [show (ByteArray.mk #[97]).size = 1 from rfl, show (ByteArray.mk #[107]).size = 1 from rfl, show (ByteArray.mk #[118]).size = 1 from rfl, show (ByteArray.mk #[44]).size = 1 from rfl, show (ByteArray.mk #[41]).size = 1 from rfl, show (ByteArray.mk #[104, 40]).size = 2 from rfl, show (ByteArray.mk #[112, 40]).size = 2 from rfl, show (ByteArray.mk #[101, 40, 107]).size = 3 from rfl, show (ByteArray.mk #[115, 40, 107]).size = 3 from rfl]); omega) v
    go_wp2
    go_ret
    exact ⟨⟨.inl (1, n)⟩, TD.leaf (by omega) HN.out, by rw [Tr.txt, ← HDD.out]; rfl, HD4.out.1, HD4.out.2⟩
  · skip
    have ad : ∀ v : World, (Op.stringOp .add (⟨#[107]⟩) (D)).run Tryd.prog v = .ok (.string ((⟨#[107]⟩) ++ (D))) v := fun v => add_ok (by (try simp only [ByteArray.size_append]); (try simp only [show (ByteArray.mk #[97]).size = 1 from rfl, show (ByteArray.mk #[107]).size = 1 from rfl, show (ByteArray.mk #[118]).size = 1 from rfl, show (ByteArray.mk #[44]).size = 1 from rfl, show (ByteArray.mk #[41]).size = 1 from rfl, show (ByteArray.mk #[104, 40]).size = 2 from rfl, show (ByteArray.mk #[112, 40]).size = 2 from rfl, show (ByteArray.mk #[101, 40, 107]).size = 3 from rfl, show (ByteArray.mk #[115, 40, 107]).size = 3 from rfl]); omega) v
    go_wp2
    go_ret
    exact ⟨⟨.inl (2, n)⟩, TD.leaf (by omega) HN.out, by rw [Tr.txt, ← HDD.out]; rfl, HD4.out.1, HD4.out.2⟩
  · skip
    have ad : ∀ v : World, (Op.stringOp .add (⟨#[118]⟩) (D)).run Tryd.prog v = .ok (.string ((⟨#[118]⟩) ++ (D))) v := fun v => add_ok (by (try simp only [ByteArray.size_append]); (try simp only [show (ByteArray.mk #[97]).size = 1 from rfl, show (ByteArray.mk #[107]).size = 1 from rfl, show (ByteArray.mk #[118]).size = 1 from rfl, show (ByteArray.mk #[44]).size = 1 from rfl, show (ByteArray.mk #[41]).size = 1 from rfl, show (ByteArray.mk #[104, 40]).size = 2 from rfl, show (ByteArray.mk #[112, 40]).size = 2 from rfl, show (ByteArray.mk #[101, 40, 107]).size = 3 from rfl, show (ByteArray.mk #[115, 40, 107]).size = 3 from rfl]); omega) v
    go_wp2
    go_ret
    exact ⟨⟨.inl (3, n)⟩, TD.leaf (by omega) HN.out, by rw [Tr.txt, ← HDD.out]; rfl, HD4.out.1, HD4.out.2⟩

set_option maxRecDepth 8000 in
set_option maxHeartbeats 60000000 in
theorem drSucc (hU : IsU8 W a len cap Z) (f : Nat) (hf : f ≤ 3) (ih : ∀ (w : World), Draw W a len cap R w → Calls Tryd.prog 60 #[.pointer (some ⟨R, 0, none⟩), .int .i64 (f : Int)] w fun e w' => ∃ t : Tr, TD f t ∧ e = .returned (.string t.txt) ∧ Draw W a len cap R w' ∧ Mut R w w') (w : World) (h : Draw W a len cap R w) :
    Calls Tryd.prog 60 #[.pointer (some ⟨R, 0, none⟩), .int .i64 (((f + 1 : Nat)) : Int)] w fun e w' => ∃ t : Tr, TD (f + 1) t ∧ e = .returned (.string t.txt) ∧ Draw W a len cap R w' ∧ Mut R w w' := by
  obtain ⟨d, hd⟩ : ∃ d : Int, d = ((f + 1 : Nat) : Int) := ⟨_, rfl⟩
  rw [← hd]
  have hd0 : (d == 0) = false := by rw [beq_eq_false_iff_ne]; omega
  have hd1 : d - 1 = (f : Int) := by omega
  have hwf : wrap64 (f : Int) = (f : Int) := by unfold wrap64; omega
  have hdn : ¬ d = 0 := by omega
  have HIH : Hid (∀ (w : World), Draw W a len cap R w → Calls Tryd.prog 60 #[.pointer (some ⟨R, 0, none⟩), .int .i64 (f : Int)] w fun e w' => ∃ t : Tr, TD f t ∧ e = .returned (.string t.txt) ∧ Draw W a len cap R w' ∧ Mut R w w') := ih
  have HF : Hid (f ≤ 3) := hf
  clear ih hd hf
  have HD : Hid (Draw W a len cap R w) := h
  clear h
  go_enter Tryd.func60, Tryd.ntmps60
  go_wp2_with fail
  refine (below_any hU 4 (by omega) (by omega) w HD.out).mono ?_
  rintro e w1 ⟨x, hx0, hx1, rfl, hD1, hM1⟩
  have HD1 : Hid (Draw W a len cap R w1 ∧ Mut R w w1) := ⟨hD1, hM1⟩
  clear hD1 hM1
  obtain ⟨n, rfl⟩ : ∃ n : Nat, x = (n : Int) := ⟨x.toNat, by omega⟩
  have hn : n ≤ 3 := by omega
  have HN : Hid (n ≤ 3) := hn
  have hwn : IntKind.i64.wrap (n : Int) = (n : Int) := by rw [IntKind.wrap_i64]; omega
  go_wp2_with fail
  refine (l1Dec_any n (by omega) w1).mono ?_
  rintro e w2 ⟨rfl, hB2⟩
  have HD2 : Hid (Draw W a len cap R w2 ∧ Mut R w w2) := ⟨HD1.out.1.below hB2, HD1.out.2.trans (Mut.of_below hB2)⟩
  clear hB2 hx0 hx1
  obtain ⟨D, hD⟩ : ∃ D, D = decB n := ⟨_, rfl⟩
  have hDs : D.size ≤ 4 := by rw [hD]; exact decS hn
  have HDD : Hid (D = decB n) := hD
  rw [← hD]
  clear hD hn hwn
  go_wp2_with fail
  refine (below_any hU 10 (by omega) (by omega) w2 HD2.out.1).mono ?_
  rintro e w3 ⟨y, hy0, hy1, rfl, hD3, hM3⟩
  have HD3 : Hid (Draw W a len cap R w3 ∧ Mut R w w3) := ⟨hD3, HD2.out.2.trans hM3⟩
  clear hD3 hM3
  have hy : y = 0 ∨ y = 1 ∨ y = 2 ∨ y = 3 ∨ y = 4 ∨ y = 5 ∨ y = 6 ∨ y = 7 ∨ y = 8 ∨ y = 9 := by omega
  clear hy0 hy1
  rcases hy with rfl | rfl | rfl | rfl | rfl | rfl | rfl | rfl | rfl | rfl
  · skip
    have ad : ∀ v : World, (Op.stringOp .add (⟨#[97]⟩) (D)).run Tryd.prog v = .ok (.string ((⟨#[97]⟩) ++ (D))) v := fun v => add_ok (by (try simp only [ByteArray.size_append]); (try simp only [show (ByteArray.mk #[97]).size = 1 from rfl, show (ByteArray.mk #[107]).size = 1 from rfl, show (ByteArray.mk #[118]).size = 1 from rfl, show (ByteArray.mk #[44]).size = 1 from rfl, show (ByteArray.mk #[41]).size = 1 from rfl, show (ByteArray.mk #[104, 40]).size = 2 from rfl, show (ByteArray.mk #[112, 40]).size = 2 from rfl, show (ByteArray.mk #[101, 40, 107]).size = 3 from rfl, show (ByteArray.mk #[115, 40, 107]).size = 3 from rfl]); omega) v
    go_wp2
    go_ret
    exact ⟨⟨.inl (1, n)⟩, TD.leaf (by omega) HN.out, by rw [Tr.txt, ← HDD.out]; rfl, HD3.out.1, HD3.out.2⟩
  · skip
    have ad : ∀ v : World, (Op.stringOp .add (⟨#[97]⟩) (D)).run Tryd.prog v = .ok (.string ((⟨#[97]⟩) ++ (D))) v := fun v => add_ok (by (try simp only [ByteArray.size_append]); (try simp only [show (ByteArray.mk #[97]).size = 1 from rfl, show (ByteArray.mk #[107]).size = 1 from rfl, show (ByteArray.mk #[118]).size = 1 from rfl, show (ByteArray.mk #[44]).size = 1 from rfl, show (ByteArray.mk #[41]).size = 1 from rfl, show (ByteArray.mk #[104, 40]).size = 2 from rfl, show (ByteArray.mk #[112, 40]).size = 2 from rfl, show (ByteArray.mk #[101, 40, 107]).size = 3 from rfl, show (ByteArray.mk #[115, 40, 107]).size = 3 from rfl]); omega) v
    go_wp2
    go_ret
    exact ⟨⟨.inl (1, n)⟩, TD.leaf (by omega) HN.out, by rw [Tr.txt, ← HDD.out]; rfl, HD3.out.1, HD3.out.2⟩
  · skip
    have ad : ∀ v : World, (Op.stringOp .add (⟨#[107]⟩) (D)).run Tryd.prog v = .ok (.string ((⟨#[107]⟩) ++ (D))) v := fun v => add_ok (by (try simp only [ByteArray.size_append]); (try simp only [show (ByteArray.mk #[97]).size = 1 from rfl, show (ByteArray.mk #[107]).size = 1 from rfl, show (ByteArray.mk #[118]).size = 1 from rfl, show (ByteArray.mk #[44]).size = 1 from rfl, show (ByteArray.mk #[41]).size = 1 from rfl, show (ByteArray.mk #[104, 40]).size = 2 from rfl, show (ByteArray.mk #[112, 40]).size = 2 from rfl, show (ByteArray.mk #[101, 40, 107]).size = 3 from rfl, show (ByteArray.mk #[115, 40, 107]).size = 3 from rfl]); omega) v
    go_wp2
    go_ret
    exact ⟨⟨.inl (2, n)⟩, TD.leaf (by omega) HN.out, by rw [Tr.txt, ← HDD.out]; rfl, HD3.out.1, HD3.out.2⟩
  · skip
    have ad : ∀ v : World, (Op.stringOp .add (⟨#[118]⟩) (D)).run Tryd.prog v = .ok (.string ((⟨#[118]⟩) ++ (D))) v := fun v => add_ok (by (try simp only [ByteArray.size_append]); (try simp only [show (ByteArray.mk #[97]).size = 1 from rfl, show (ByteArray.mk #[107]).size = 1 from rfl, show (ByteArray.mk #[118]).size = 1 from rfl, show (ByteArray.mk #[44]).size = 1 from rfl, show (ByteArray.mk #[41]).size = 1 from rfl, show (ByteArray.mk #[104, 40]).size = 2 from rfl, show (ByteArray.mk #[112, 40]).size = 2 from rfl, show (ByteArray.mk #[101, 40, 107]).size = 3 from rfl, show (ByteArray.mk #[115, 40, 107]).size = 3 from rfl]); omega) v
    go_wp2
    go_ret
    exact ⟨⟨.inl (3, n)⟩, TD.leaf (by omega) HN.out, by rw [Tr.txt, ← HDD.out]; rfl, HD3.out.1, HD3.out.2⟩
  · skip
    go_wp2_with fail
    refine (HIH.out w3 HD3.out.1).mono ?_
    rintro e w4 ⟨t4, hT4, rfl, hD4, hM4⟩
    have HD4 : Hid (Draw W a len cap R w4 ∧ Mut R w w4) := ⟨hD4, HD3.out.2.trans hM4⟩
    have HT4 : Hid (TD f t4) := hT4
    obtain ⟨X4, hX4⟩ : ∃ X, X = t4.txt := ⟨_, rfl⟩
    have hXs4 : X4.size ≤ 32000 := by rw [hX4]; exact hT4.small (by have := HF.out; omega)
    have HX4 : Hid (X4 = t4.txt) := hX4
    rw [← hX4]
    clear hX4 hT4 hD4 hM4
    have ad1 : ∀ v : World, (Op.stringOp .add (⟨#[104, 40]⟩) (X4)).run Tryd.prog v = .ok (.string ((⟨#[104, 40]⟩) ++ (X4))) v := fun v => add_ok (by (try simp only [ByteArray.size_append]); (try simp only [show (ByteArray.mk #[97]).size = 1 from rfl, show (ByteArray.mk #[107]).size = 1 from rfl, show (ByteArray.mk #[118]).size = 1 from rfl, show (ByteArray.mk #[44]).size = 1 from rfl, show (ByteArray.mk #[41]).size = 1 from rfl, show (ByteArray.mk #[104, 40]).size = 2 from rfl, show (ByteArray.mk #[112, 40]).size = 2 from rfl, show (ByteArray.mk #[101, 40, 107]).size = 3 from rfl, show (ByteArray.mk #[115, 40, 107]).size = 3 from rfl]); omega) v
    have ad2 : ∀ v : World, (Op.stringOp .add (⟨#[104, 40]⟩ ++ X4) (⟨#[41]⟩)).run Tryd.prog v = .ok (.string ((⟨#[104, 40]⟩ ++ X4) ++ (⟨#[41]⟩))) v := fun v => add_ok (by (try simp only [ByteArray.size_append]); (try simp only [show (ByteArray.mk #[97]).size = 1 from rfl, show (ByteArray.mk #[107]).size = 1 from rfl, show (ByteArray.mk #[118]).size = 1 from rfl, show (ByteArray.mk #[44]).size = 1 from rfl, show (ByteArray.mk #[41]).size = 1 from rfl, show (ByteArray.mk #[104, 40]).size = 2 from rfl, show (ByteArray.mk #[112, 40]).size = 2 from rfl, show (ByteArray.mk #[101, 40, 107]).size = 3 from rfl, show (ByteArray.mk #[115, 40, 107]).size = 3 from rfl]); omega) v
    go_wp2
    go_ret
    exact ⟨⟨.inr (.inl t4)⟩, HT4.out.hash, by rw [Tr.txt, ← HX4.out]; rfl, HD4.out.1, HD4.out.2⟩
  · skip
    go_wp2_with fail
    refine (HIH.out w3 HD3.out.1).mono ?_
    rintro e w4 ⟨t4, hT4, rfl, hD4, hM4⟩
    have HD4 : Hid (Draw W a len cap R w4 ∧ Mut R w w4) := ⟨hD4, HD3.out.2.trans hM4⟩
    have HT4 : Hid (TD f t4) := hT4
    obtain ⟨X4, hX4⟩ : ∃ X, X = t4.txt := ⟨_, rfl⟩
    have hXs4 : X4.size ≤ 32000 := by rw [hX4]; exact hT4.small (by have := HF.out; omega)
    have HX4 : Hid (X4 = t4.txt) := hX4
    rw [← hX4]
    clear hX4 hT4 hD4 hM4
    have ad1 : ∀ v : World, (Op.stringOp .add (⟨#[112, 40]⟩) (X4)).run Tryd.prog v = .ok (.string ((⟨#[112, 40]⟩) ++ (X4))) v := fun v => add_ok (by (try simp only [ByteArray.size_append]); (try simp only [show (ByteArray.mk #[97]).size = 1 from rfl, show (ByteArray.mk #[107]).size = 1 from rfl, show (ByteArray.mk #[118]).size = 1 from rfl, show (ByteArray.mk #[44]).size = 1 from rfl, show (ByteArray.mk #[41]).size = 1 from rfl, show (ByteArray.mk #[104, 40]).size = 2 from rfl, show (ByteArray.mk #[112, 40]).size = 2 from rfl, show (ByteArray.mk #[101, 40, 107]).size = 3 from rfl, show (ByteArray.mk #[115, 40, 107]).size = 3 from rfl]); omega) v
    have ad2 : ∀ v : World, (Op.stringOp .add (⟨#[112, 40]⟩ ++ X4) (⟨#[44]⟩)).run Tryd.prog v = .ok (.string ((⟨#[112, 40]⟩ ++ X4) ++ (⟨#[44]⟩))) v := fun v => add_ok (by (try simp only [ByteArray.size_append]); (try simp only [show (ByteArray.mk #[97]).size = 1 from rfl, show (ByteArray.mk #[107]).size = 1 from rfl, show (ByteArray.mk #[118]).size = 1 from rfl, show (ByteArray.mk #[44]).size = 1 from rfl, show (ByteArray.mk #[41]).size = 1 from rfl, show (ByteArray.mk #[104, 40]).size = 2 from rfl, show (ByteArray.mk #[112, 40]).size = 2 from rfl, show (ByteArray.mk #[101, 40, 107]).size = 3 from rfl, show (ByteArray.mk #[115, 40, 107]).size = 3 from rfl]); omega) v
    go_wp2_with fail
    refine (HIH.out w4 HD4.out.1).mono ?_
    rintro e w5 ⟨t5, hT5, rfl, hD5, hM5⟩
    have HD5 : Hid (Draw W a len cap R w5 ∧ Mut R w w5) := ⟨hD5, HD4.out.2.trans hM5⟩
    have HT5 : Hid (TD f t5) := hT5
    obtain ⟨X5, hX5⟩ : ∃ X, X = t5.txt := ⟨_, rfl⟩
    have hXs5 : X5.size ≤ 32000 := by rw [hX5]; exact hT5.small (by have := HF.out; omega)
    have HX5 : Hid (X5 = t5.txt) := hX5
    rw [← hX5]
    clear hX5 hT5 hD5 hM5
    have ad3 : ∀ v : World, (Op.stringOp .add ((⟨#[112, 40]⟩ ++ X4) ++ ⟨#[44]⟩) (X5)).run Tryd.prog v = .ok (.string (((⟨#[112, 40]⟩ ++ X4) ++ ⟨#[44]⟩) ++ (X5))) v := fun v => add_ok (by (try simp only [ByteArray.size_append]); (try simp only [show (ByteArray.mk #[97]).size = 1 from rfl, show (ByteArray.mk #[107]).size = 1 from rfl, show (ByteArray.mk #[118]).size = 1 from rfl, show (ByteArray.mk #[44]).size = 1 from rfl, show (ByteArray.mk #[41]).size = 1 from rfl, show (ByteArray.mk #[104, 40]).size = 2 from rfl, show (ByteArray.mk #[112, 40]).size = 2 from rfl, show (ByteArray.mk #[101, 40, 107]).size = 3 from rfl, show (ByteArray.mk #[115, 40, 107]).size = 3 from rfl]); omega) v
    have ad4 : ∀ v : World, (Op.stringOp .add (((⟨#[112, 40]⟩ ++ X4) ++ ⟨#[44]⟩) ++ X5) (⟨#[41]⟩)).run Tryd.prog v = .ok (.string ((((⟨#[112, 40]⟩ ++ X4) ++ ⟨#[44]⟩) ++ X5) ++ (⟨#[41]⟩))) v := fun v => add_ok (by (try simp only [ByteArray.size_append]); (try simp only [show (ByteArray.mk #[97]).size = 1 from rfl, show (ByteArray.mk #[107]).size = 1 from rfl, show (ByteArray.mk #[118]).size = 1 from rfl, show (ByteArray.mk #[44]).size = 1 from rfl, show (ByteArray.mk #[41]).size = 1 from rfl, show (ByteArray.mk #[104, 40]).size = 2 from rfl, show (ByteArray.mk #[112, 40]).size = 2 from rfl, show (ByteArray.mk #[101, 40, 107]).size = 3 from rfl, show (ByteArray.mk #[115, 40, 107]).size = 3 from rfl]); omega) v
    go_wp2
    go_ret
    exact ⟨⟨.inr (.inr (.inl (t4, t5)))⟩, HT4.out.pair HT5.out, by rw [Tr.txt, ← HX4.out, ← HX5.out]; rfl, HD5.out.1, HD5.out.2⟩
  · skip
    go_wp2_with fail
    refine (HIH.out w3 HD3.out.1).mono ?_
    rintro e w4 ⟨t4, hT4, rfl, hD4, hM4⟩
    have HD4 : Hid (Draw W a len cap R w4 ∧ Mut R w w4) := ⟨hD4, HD3.out.2.trans hM4⟩
    have HT4 : Hid (TD f t4) := hT4
    obtain ⟨X4, hX4⟩ : ∃ X, X = t4.txt := ⟨_, rfl⟩
    have hXs4 : X4.size ≤ 32000 := by rw [hX4]; exact hT4.small (by have := HF.out; omega)
    have HX4 : Hid (X4 = t4.txt) := hX4
    rw [← hX4]
    clear hX4 hT4 hD4 hM4
    have ad1 : ∀ v : World, (Op.stringOp .add (⟨#[112, 40]⟩) (X4)).run Tryd.prog v = .ok (.string ((⟨#[112, 40]⟩) ++ (X4))) v := fun v => add_ok (by (try simp only [ByteArray.size_append]); (try simp only [show (ByteArray.mk #[97]).size = 1 from rfl, show (ByteArray.mk #[107]).size = 1 from rfl, show (ByteArray.mk #[118]).size = 1 from rfl, show (ByteArray.mk #[44]).size = 1 from rfl, show (ByteArray.mk #[41]).size = 1 from rfl, show (ByteArray.mk #[104, 40]).size = 2 from rfl, show (ByteArray.mk #[112, 40]).size = 2 from rfl, show (ByteArray.mk #[101, 40, 107]).size = 3 from rfl, show (ByteArray.mk #[115, 40, 107]).size = 3 from rfl]); omega) v
    have ad2 : ∀ v : World, (Op.stringOp .add (⟨#[112, 40]⟩ ++ X4) (⟨#[44]⟩)).run Tryd.prog v = .ok (.string ((⟨#[112, 40]⟩ ++ X4) ++ (⟨#[44]⟩))) v := fun v => add_ok (by (try simp only [ByteArray.size_append]); (try simp only [show (ByteArray.mk #[97]).size = 1 from rfl, show (ByteArray.mk #[107]).size = 1 from rfl, show (ByteArray.mk #[118]).size = 1 from rfl, show (ByteArray.mk #[44]).size = 1 from rfl, show (ByteArray.mk #[41]).size = 1 from rfl, show (ByteArray.mk #[104, 40]).size = 2 from rfl, show (ByteArray.mk #[112, 40]).size = 2 from rfl, show (ByteArray.mk #[101, 40, 107]).size = 3 from rfl, show (ByteArray.mk #[115, 40, 107]).size = 3 from rfl]); omega) v
    go_wp2_with fail
    refine (HIH.out w4 HD4.out.1).mono ?_
    rintro e w5 ⟨t5, hT5, rfl, hD5, hM5⟩
    have HD5 : Hid (Draw W a len cap R w5 ∧ Mut R w w5) := ⟨hD5, HD4.out.2.trans hM5⟩
    have HT5 : Hid (TD f t5) := hT5
    obtain ⟨X5, hX5⟩ : ∃ X, X = t5.txt := ⟨_, rfl⟩
    have hXs5 : X5.size ≤ 32000 := by rw [hX5]; exact hT5.small (by have := HF.out; omega)
    have HX5 : Hid (X5 = t5.txt) := hX5
    rw [← hX5]
    clear hX5 hT5 hD5 hM5
    have ad3 : ∀ v : World, (Op.stringOp .add ((⟨#[112, 40]⟩ ++ X4) ++ ⟨#[44]⟩) (X5)).run Tryd.prog v = .ok (.string (((⟨#[112, 40]⟩ ++ X4) ++ ⟨#[44]⟩) ++ (X5))) v := fun v => add_ok (by (try simp only [ByteArray.size_append]); (try simp only [show (ByteArray.mk #[97]).size = 1 from rfl, show (ByteArray.mk #[107]).size = 1 from rfl, show (ByteArray.mk #[118]).size = 1 from rfl, show (ByteArray.mk #[44]).size = 1 from rfl, show (ByteArray.mk #[41]).size = 1 from rfl, show (ByteArray.mk #[104, 40]).size = 2 from rfl, show (ByteArray.mk #[112, 40]).size = 2 from rfl, show (ByteArray.mk #[101, 40, 107]).size = 3 from rfl, show (ByteArray.mk #[115, 40, 107]).size = 3 from rfl]); omega) v
    have ad4 : ∀ v : World, (Op.stringOp .add (((⟨#[112, 40]⟩ ++ X4) ++ ⟨#[44]⟩) ++ X5) (⟨#[41]⟩)).run Tryd.prog v = .ok (.string ((((⟨#[112, 40]⟩ ++ X4) ++ ⟨#[44]⟩) ++ X5) ++ (⟨#[41]⟩))) v := fun v => add_ok (by (try simp only [ByteArray.size_append]); (try simp only [show (ByteArray.mk #[97]).size = 1 from rfl, show (ByteArray.mk #[107]).size = 1 from rfl, show (ByteArray.mk #[118]).size = 1 from rfl, show (ByteArray.mk #[44]).size = 1 from rfl, show (ByteArray.mk #[41]).size = 1 from rfl, show (ByteArray.mk #[104, 40]).size = 2 from rfl, show (ByteArray.mk #[112, 40]).size = 2 from rfl, show (ByteArray.mk #[101, 40, 107]).size = 3 from rfl, show (ByteArray.mk #[115, 40, 107]).size = 3 from rfl]); omega) v
    go_wp2
    go_ret
    exact ⟨⟨.inr (.inr (.inl (t4, t5)))⟩, HT4.out.pair HT5.out, by rw [Tr.txt, ← HX4.out, ← HX5.out]; rfl, HD5.out.1, HD5.out.2⟩
  · skip
    have ad1 : ∀ v : World, (Op.stringOp .add (⟨#[115, 40, 107]⟩) (D)).run Tryd.prog v = .ok (.string ((⟨#[115, 40, 107]⟩) ++ (D))) v := fun v => add_ok (by (try simp only [ByteArray.size_append]); (try simp only [show (ByteArray.mk #[97]).size = 1 from rfl, show (ByteArray.mk #[107]).size = 1 from rfl, show (ByteArray.mk #[118]).size = 1 from rfl, show (ByteArray.mk #[44]).size = 1 from rfl, show (ByteArray.mk #[41]).size = 1 from rfl, show (ByteArray.mk #[104, 40]).size = 2 from rfl, show (ByteArray.mk #[112, 40]).size = 2 from rfl, show (ByteArray.mk #[101, 40, 107]).size = 3 from rfl, show (ByteArray.mk #[115, 40, 107]).size = 3 from rfl]); omega) v
    have ad2 : ∀ v : World, (Op.stringOp .add (⟨#[115, 40, 107]⟩ ++ D) (⟨#[44]⟩)).run Tryd.prog v = .ok (.string ((⟨#[115, 40, 107]⟩ ++ D) ++ (⟨#[44]⟩))) v := fun v => add_ok (by (try simp only [ByteArray.size_append]); (try simp only [show (ByteArray.mk #[97]).size = 1 from rfl, show (ByteArray.mk #[107]).size = 1 from rfl, show (ByteArray.mk #[118]).size = 1 from rfl, show (ByteArray.mk #[44]).size = 1 from rfl, show (ByteArray.mk #[41]).size = 1 from rfl, show (ByteArray.mk #[104, 40]).size = 2 from rfl, show (ByteArray.mk #[112, 40]).size = 2 from rfl, show (ByteArray.mk #[101, 40, 107]).size = 3 from rfl, show (ByteArray.mk #[115, 40, 107]).size = 3 from rfl]); omega) v
    go_wp2_with fail
    refine (HIH.out w3 HD3.out.1).mono ?_
    rintro e w4 ⟨t4, hT4, rfl, hD4, hM4⟩
    have HD4 : Hid (Draw W a len cap R w4 ∧ Mut R w w4) := ⟨hD4, HD3.out.2.trans hM4⟩
    have HT4 : Hid (TD f t4) := hT4
    obtain ⟨X4, hX4⟩ : ∃ X, X = t4.txt := ⟨_, rfl⟩
    have hXs4 : X4.size ≤ 32000 := by rw [hX4]; exact hT4.small (by have := HF.out; omega)
    have HX4 : Hid (X4 = t4.txt) := hX4
    rw [← hX4]
    clear hX4 hT4 hD4 hM4
    have ad3 : ∀ v : World, (Op.stringOp .add ((⟨#[115, 40, 107]⟩ ++ D) ++ ⟨#[44]⟩) (X4)).run Tryd.prog v = .ok (.string (((⟨#[115, 40, 107]⟩ ++ D) ++ ⟨#[44]⟩) ++ (X4))) v := fun v => add_ok (by (try simp only [ByteArray.size_append]); (try simp only [show (ByteArray.mk #[97]).size = 1 from rfl, show (ByteArray.mk #[107]).size = 1 from rfl, show (ByteArray.mk #[118]).size = 1 from rfl, show (ByteArray.mk #[44]).size = 1 from rfl, show (ByteArray.mk #[41]).size = 1 from rfl, show (ByteArray.mk #[104, 40]).size = 2 from rfl, show (ByteArray.mk #[112, 40]).size = 2 from rfl, show (ByteArray.mk #[101, 40, 107]).size = 3 from rfl, show (ByteArray.mk #[115, 40, 107]).size = 3 from rfl]); omega) v
    have ad4 : ∀ v : World, (Op.stringOp .add (((⟨#[115, 40, 107]⟩ ++ D) ++ ⟨#[44]⟩) ++ X4) (⟨#[41]⟩)).run Tryd.prog v = .ok (.string ((((⟨#[115, 40, 107]⟩ ++ D) ++ ⟨#[44]⟩) ++ X4) ++ (⟨#[41]⟩))) v := fun v => add_ok (by (try simp only [ByteArray.size_append]); (try simp only [show (ByteArray.mk #[97]).size = 1 from rfl, show (ByteArray.mk #[107]).size = 1 from rfl, show (ByteArray.mk #[118]).size = 1 from rfl, show (ByteArray.mk #[44]).size = 1 from rfl, show (ByteArray.mk #[41]).size = 1 from rfl, show (ByteArray.mk #[104, 40]).size = 2 from rfl, show (ByteArray.mk #[112, 40]).size = 2 from rfl, show (ByteArray.mk #[101, 40, 107]).size = 3 from rfl, show (ByteArray.mk #[115, 40, 107]).size = 3 from rfl]); omega) v
    go_wp2
    go_ret
    exact ⟨⟨.inr (.inr (.inr (7, n, t4)))⟩, HT4.out.keyed (by omega) HN.out, by rw [Tr.txt, ← HX4.out, ← HDD.out]; rfl, HD4.out.1, HD4.out.2⟩
  · skip
    have ad1 : ∀ v : World, (Op.stringOp .add (⟨#[101, 40, 107]⟩) (D)).run Tryd.prog v = .ok (.string ((⟨#[101, 40, 107]⟩) ++ (D))) v := fun v => add_ok (by (try simp only [ByteArray.size_append]); (try simp only [show (ByteArray.mk #[97]).size = 1 from rfl, show (ByteArray.mk #[107]).size = 1 from rfl, show (ByteArray.mk #[118]).size = 1 from rfl, show (ByteArray.mk #[44]).size = 1 from rfl, show (ByteArray.mk #[41]).size = 1 from rfl, show (ByteArray.mk #[104, 40]).size = 2 from rfl, show (ByteArray.mk #[112, 40]).size = 2 from rfl, show (ByteArray.mk #[101, 40, 107]).size = 3 from rfl, show (ByteArray.mk #[115, 40, 107]).size = 3 from rfl]); omega) v
    have ad2 : ∀ v : World, (Op.stringOp .add (⟨#[101, 40, 107]⟩ ++ D) (⟨#[44]⟩)).run Tryd.prog v = .ok (.string ((⟨#[101, 40, 107]⟩ ++ D) ++ (⟨#[44]⟩))) v := fun v => add_ok (by (try simp only [ByteArray.size_append]); (try simp only [show (ByteArray.mk #[97]).size = 1 from rfl, show (ByteArray.mk #[107]).size = 1 from rfl, show (ByteArray.mk #[118]).size = 1 from rfl, show (ByteArray.mk #[44]).size = 1 from rfl, show (ByteArray.mk #[41]).size = 1 from rfl, show (ByteArray.mk #[104, 40]).size = 2 from rfl, show (ByteArray.mk #[112, 40]).size = 2 from rfl, show (ByteArray.mk #[101, 40, 107]).size = 3 from rfl, show (ByteArray.mk #[115, 40, 107]).size = 3 from rfl]); omega) v
    go_wp2_with fail
    refine (HIH.out w3 HD3.out.1).mono ?_
    rintro e w4 ⟨t4, hT4, rfl, hD4, hM4⟩
    have HD4 : Hid (Draw W a len cap R w4 ∧ Mut R w w4) := ⟨hD4, HD3.out.2.trans hM4⟩
    have HT4 : Hid (TD f t4) := hT4
    obtain ⟨X4, hX4⟩ : ∃ X, X = t4.txt := ⟨_, rfl⟩
    have hXs4 : X4.size ≤ 32000 := by rw [hX4]; exact hT4.small (by have := HF.out; omega)
    have HX4 : Hid (X4 = t4.txt) := hX4
    rw [← hX4]
    clear hX4 hT4 hD4 hM4
    have ad3 : ∀ v : World, (Op.stringOp .add ((⟨#[101, 40, 107]⟩ ++ D) ++ ⟨#[44]⟩) (X4)).run Tryd.prog v = .ok (.string (((⟨#[101, 40, 107]⟩ ++ D) ++ ⟨#[44]⟩) ++ (X4))) v := fun v => add_ok (by (try simp only [ByteArray.size_append]); (try simp only [show (ByteArray.mk #[97]).size = 1 from rfl, show (ByteArray.mk #[107]).size = 1 from rfl, show (ByteArray.mk #[118]).size = 1 from rfl, show (ByteArray.mk #[44]).size = 1 from rfl, show (ByteArray.mk #[41]).size = 1 from rfl, show (ByteArray.mk #[104, 40]).size = 2 from rfl, show (ByteArray.mk #[112, 40]).size = 2 from rfl, show (ByteArray.mk #[101, 40, 107]).size = 3 from rfl, show (ByteArray.mk #[115, 40, 107]).size = 3 from rfl]); omega) v
    have ad4 : ∀ v : World, (Op.stringOp .add (((⟨#[101, 40, 107]⟩ ++ D) ++ ⟨#[44]⟩) ++ X4) (⟨#[41]⟩)).run Tryd.prog v = .ok (.string ((((⟨#[101, 40, 107]⟩ ++ D) ++ ⟨#[44]⟩) ++ X4) ++ (⟨#[41]⟩))) v := fun v => add_ok (by (try simp only [ByteArray.size_append]); (try simp only [show (ByteArray.mk #[97]).size = 1 from rfl, show (ByteArray.mk #[107]).size = 1 from rfl, show (ByteArray.mk #[118]).size = 1 from rfl, show (ByteArray.mk #[44]).size = 1 from rfl, show (ByteArray.mk #[41]).size = 1 from rfl, show (ByteArray.mk #[104, 40]).size = 2 from rfl, show (ByteArray.mk #[112, 40]).size = 2 from rfl, show (ByteArray.mk #[101, 40, 107]).size = 3 from rfl, show (ByteArray.mk #[115, 40, 107]).size = 3 from rfl]); omega) v
    go_wp2
    go_ret
    exact ⟨⟨.inr (.inr (.inr (6, n, t4)))⟩, HT4.out.keyed (by omega) HN.out, by rw [Tr.txt, ← HX4.out, ← HDD.out]; rfl, HD4.out.1, HD4.out.2⟩
  · skip
    have ad1 : ∀ v : World, (Op.stringOp .add (⟨#[101, 40, 107]⟩) (D)).run Tryd.prog v = .ok (.string ((⟨#[101, 40, 107]⟩) ++ (D))) v := fun v => add_ok (by (try simp only [ByteArray.size_append]); (try simp only [show (ByteArray.mk #[97]).size = 1 from rfl, show (ByteArray.mk #[107]).size = 1 from rfl, show (ByteArray.mk #[118]).size = 1 from rfl, show (ByteArray.mk #[44]).size = 1 from rfl, show (ByteArray.mk #[41]).size = 1 from rfl, show (ByteArray.mk #[104, 40]).size = 2 from rfl, show (ByteArray.mk #[112, 40]).size = 2 from rfl, show (ByteArray.mk #[101, 40, 107]).size = 3 from rfl, show (ByteArray.mk #[115, 40, 107]).size = 3 from rfl]); omega) v
    have ad2 : ∀ v : World, (Op.stringOp .add (⟨#[101, 40, 107]⟩ ++ D) (⟨#[44]⟩)).run Tryd.prog v = .ok (.string ((⟨#[101, 40, 107]⟩ ++ D) ++ (⟨#[44]⟩))) v := fun v => add_ok (by (try simp only [ByteArray.size_append]); (try simp only [show (ByteArray.mk #[97]).size = 1 from rfl, show (ByteArray.mk #[107]).size = 1 from rfl, show (ByteArray.mk #[118]).size = 1 from rfl, show (ByteArray.mk #[44]).size = 1 from rfl, show (ByteArray.mk #[41]).size = 1 from rfl, show (ByteArray.mk #[104, 40]).size = 2 from rfl, show (ByteArray.mk #[112, 40]).size = 2 from rfl, show (ByteArray.mk #[101, 40, 107]).size = 3 from rfl, show (ByteArray.mk #[115, 40, 107]).size = 3 from rfl]); omega) v
    go_wp2_with fail
    refine (HIH.out w3 HD3.out.1).mono ?_
    rintro e w4 ⟨t4, hT4, rfl, hD4, hM4⟩
    have HD4 : Hid (Draw W a len cap R w4 ∧ Mut R w w4) := ⟨hD4, HD3.out.2.trans hM4⟩
    have HT4 : Hid (TD f t4) := hT4
    obtain ⟨X4, hX4⟩ : ∃ X, X = t4.txt := ⟨_, rfl⟩
    have hXs4 : X4.size ≤ 32000 := by rw [hX4]; exact hT4.small (by have := HF.out; omega)
    have HX4 : Hid (X4 = t4.txt) := hX4
    rw [← hX4]
    clear hX4 hT4 hD4 hM4
    have ad3 : ∀ v : World, (Op.stringOp .add ((⟨#[101, 40, 107]⟩ ++ D) ++ ⟨#[44]⟩) (X4)).run Tryd.prog v = .ok (.string (((⟨#[101, 40, 107]⟩ ++ D) ++ ⟨#[44]⟩) ++ (X4))) v := fun v => add_ok (by (try simp only [ByteArray.size_append]); (try simp only [show (ByteArray.mk #[97]).size = 1 from rfl, show (ByteArray.mk #[107]).size = 1 from rfl, show (ByteArray.mk #[118]).size = 1 from rfl, show (ByteArray.mk #[44]).size = 1 from rfl, show (ByteArray.mk #[41]).size = 1 from rfl, show (ByteArray.mk #[104, 40]).size = 2 from rfl, show (ByteArray.mk #[112, 40]).size = 2 from rfl, show (ByteArray.mk #[101, 40, 107]).size = 3 from rfl, show (ByteArray.mk #[115, 40, 107]).size = 3 from rfl]); omega) v
    have ad4 : ∀ v : World, (Op.stringOp .add (((⟨#[101, 40, 107]⟩ ++ D) ++ ⟨#[44]⟩) ++ X4) (⟨#[41]⟩)).run Tryd.prog v = .ok (.string ((((⟨#[101, 40, 107]⟩ ++ D) ++ ⟨#[44]⟩) ++ X4) ++ (⟨#[41]⟩))) v := fun v => add_ok (by (try simp only [ByteArray.size_append]); (try simp only [show (ByteArray.mk #[97]).size = 1 from rfl, show (ByteArray.mk #[107]).size = 1 from rfl, show (ByteArray.mk #[118]).size = 1 from rfl, show (ByteArray.mk #[44]).size = 1 from rfl, show (ByteArray.mk #[41]).size = 1 from rfl, show (ByteArray.mk #[104, 40]).size = 2 from rfl, show (ByteArray.mk #[112, 40]).size = 2 from rfl, show (ByteArray.mk #[101, 40, 107]).size = 3 from rfl, show (ByteArray.mk #[115, 40, 107]).size = 3 from rfl]); omega) v
    go_wp2
    go_ret
    exact ⟨⟨.inr (.inr (.inr (6, n, t4)))⟩, HT4.out.keyed (by omega) HN.out, by rw [Tr.txt, ← HX4.out, ← HDD.out]; rfl, HD4.out.1, HD4.out.2⟩

/-- r.term -/
theorem drTerm_any (hU : IsU8 W a len cap Z) : ∀ (f : Nat), f ≤ 4 → ∀ (w : World), Draw W a len cap R w → Calls Tryd.prog 60 #[.pointer (some ⟨R, 0, none⟩), .int .i64 (f : Int)] w fun e w' => ∃ t : Tr, TD f t ∧ e = .returned (.string t.txt) ∧ Draw W a len cap R w' ∧ Mut R w w'
  | 0, _, w, h => drZero hU w h
  | f + 1, hf, w, h => drSucc hU f (by omega) (fun w h => drTerm_any hU f (by omega) w h) w h
end
end Go.Proofs.YtpcbhjejpebogaaDoor
